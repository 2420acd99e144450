/-
  BloomOrder: whatever comes in, the law answers true, and leaves all as it was. Condition: the table is laid as the program's text lays it.
-/
import Derived.Test.YtphonnihibikcaaDoorLift
import Derived.Test.YtphonnihibikcaaDoorCount
namespace Go.Proofs.YtphonnihibikcaaDoor
open Go.ChangeShapes Go.WideShapes Go.ChangeAt Go.RowKit Go.Joins Go.Deep

theorem Tryd.info9 : (Tryd.prog.info? 9).map (fun i => (i.zero, i.size, i.bytes)) = some (some (.string ByteArray.empty), 1, 16) := by kernel_rfl
/-- Texts as cells. -/
def ts (l : List (List UInt8)) : List Value := l.map fun t => .string (B t)
theorem ts_length (l : List (List UInt8)) : (ts l).length = l.length := by simp [ts]
theorem ts_append (l m : List (List UInt8)) : ts (l ++ m) = ts l ++ ts m := by simp [ts]
/-- v is a slice of the call's own, from block base on, that holds just these texts. -/
def OwnS (w : World) (base : Nat) (v : Value) (l : List (List UInt8)) : Prop := w.ownsRow base 9 1 v l.length (ts l)
theorem OwnS.alloc {w : World} {base : Nat} {v : Value} {l : List (List UInt8)} (h : OwnS w base v l) (o : Obj) : OwnS (w.alloc o) base v l := World.ownsRow.alloc h o
theorem owns_new (w : World) (base : Nat) (h : base ≤ w.heap.size) : OwnS (w.alloc (.cells #[] 9)) base (.slice (some ⟨w.heap.size, 0, none⟩) 0 0) [] :=
  World.ownsRow_made w #[] 0 h (by unfold maxLen; omega) rfl
theorem OwnS.shape {w : World} {base : Nat} {v : Value} {l : List (List UInt8)} (h : OwnS w base v l) (hls : ∀ t ∈ l, t.length ≤ 200) : ∃ A cap, v = .slice A l.length cap ∧ Strs w A cap l := by
  have hcs := fun g hg => World.ownsRow.cells h (g := g) hg
  have hmx : ∀ (i : Nat) (t : List UInt8), l[i]? = some t → t.length ≤ maxLen := fun i t ht => by
    have := hls t (List.mem_of_getElem? ht)
    unfold maxLen; omega
  rcases h.2 with ⟨rfl, hn⟩ | ⟨g, cap, cur, rfl, _, _, hlc, _⟩
  · have : l = [] := List.eq_nil_of_length_eq_zero hn
    subst this
    exact ⟨none, 0, rfl, Nat.le_refl _, fun i n hi => by simp at hi⟩
  · refine ⟨_, cap, rfl, hlc, fun i n hi => ⟨hmx i n hi, g, 0, rfl, ?_⟩⟩
    have := hcs g rfl i (.string (B n)) (by simp [ts, hi])
    rwa [Addr.add_lit] at this

/-- append(v, x..), x a slice of these texts. -/
theorem wp_apps {ops : Array Oper} {rest : List Oper} {o : Oper} {a : Act} {Q : Exit → Act → World → Prop} {w : World} (hgd : o.guard = none) (s x : Operand)
    (ho : o.op = .call { callee := .builtin .append, args := #[s, x], argTypes := #[22, 22] })
    {base : Nat} {v : Value} {l : List (List UInt8)} (hs : a.eval s = v) (hown : OwnS w base v l) (news : List (List UInt8)) (A : Option Addr) (c : Nat) (hx : a.eval x = .slice A news.length c)
    (hS : Strs w A c news) (hne : 0 < news.length) (hlen : l.length + news.length ≤ 100000) (hbase : base ≤ w.heap.size)
    (h : ∀ g' c' w', OwnS w' base (.slice (some ⟨g', 0, none⟩) (l.length + news.length) c') (l ++ news) → Below base w w' → base ≤ w'.heap.size → wpList Tryd.prog ops Q rest (a.put o.dst (.slice (some ⟨g', 0, none⟩) (l.length + news.length) c')) w') : wpList Tryd.prog ops Q (o :: rest) a w := by
  obtain ⟨i0, hi, hz0, hz1, hz2⟩ := info_parts Tryd.info9
  obtain ⟨_, bb, off, rfl, _⟩ := hS.at_ 0 hne
  refine wpList_append_own w hgd s x 22 ho base 9 i0 (.string ByteArray.empty) 1 16 Tryd.underlying22 hi hz0 hz1 hz2 rfl (by decide) v l.length (ts l) hs hown ⟨bb, off, none⟩ news.length c (ts news) hx (by simp [ts_length]) ?_ ?_ (by unfold maxLen; omega) (by omega) hbase ?_
  · intro j u hu
    unfold ts at hu
    rw [List.getElem?_map] at hu
    cases hg : news[j]? with
    | none => rw [hg] at hu; cases hu
    | some t =>
      rw [hg] at hu
      simp only [Option.map_some, Option.some.injEq] at hu
      subst hu
      obtain ⟨_, b2, off2, he, hcell⟩ := hS.2 j t hg
      cases he
      rw [Addr.add_lit]
      exact hcell
  · intro u hu
    unfold ts at hu
    obtain ⟨_, _, rfl⟩ := List.mem_map.1 hu
    rfl
  · intro v' w' h2 h3 _
    have h4 := h2.2
    rcases h4 with ⟨_, hn⟩ | ⟨g', cap, cur, rfl, _⟩
    · omega
    refine h g' cap w' ?_ ((Below.refl base w).grown h3 hbase (fun k hk => (World.ownsRow.lt hown k hk).1)) (Nat.le_trans hbase h3.size)
    unfold OwnS
    rw [ts_append, List.length_append]
    exact h2
/-- append(v, x). -/
theorem wp_apps1 {ops : Array Oper} {rest : List Oper} {o : Oper} {a : Act} {Q : Exit → Act → World → Prop} {w : World} (hgd : o.guard = none) (s x : Operand)
    (ho : o.op = .call { callee := .builtin .append, args := #[s, x], argTypes := #[22, 22] })
    {base : Nat} {v : Value} {l : List (List UInt8)} (hs : a.eval s = v) (hown : OwnS w base v l) (t : List UInt8) (ht : t.length ≤ 1000) (hx : a.eval x = .slice (some ⟨w.heap.size, 0, none⟩) 1 1)
    (hlen : l.length ≤ 1000) (hbase : base ≤ w.heap.size)
    (h : ∀ g' c' w', OwnS w' base (.slice (some ⟨g', 0, none⟩) (l.length + 1) c') (l ++ [t]) → Below base (w.alloc (.cells #[.string (B t)] 9)) w' → base ≤ w'.heap.size → wpList Tryd.prog ops Q rest (a.put o.dst (.slice (some ⟨g', 0, none⟩) (l.length + 1) c')) w') : wpList Tryd.prog ops Q (o :: rest) a (w.alloc (.cells #[.string (B t)] 9)) :=
  wp_apps hgd s x ho hs (hown.alloc _) [t] _ 1 hx (new_strs w t ht) (by simp) (by simp; omega) (by simp; omega) h

theorem drop_rev (names : List (List UInt8)) (q : Nat) (h : q < names.length) : (names.drop q).reverse = (names.drop (q + 1)).reverse ++ [names[q]] := by
  rw [List.drop_eq_getElem_cons h, List.reverse_cons]
theorem OwnS.old {w W : World} {base : Nat} {v : Value} {l : List (List UInt8)} (h : OwnS w base v l) (k : Old w W) : OwnS W base v l := by
  obtain ⟨h1, h2⟩ := h
  refine ⟨h1, ?_⟩
  rcases h2 with h2 | ⟨g, cap, cur, hv, hg, hh, r⟩
  · exact Or.inl h2
  · exact Or.inr ⟨g, cap, cur, hv, hg, (k.block g (lt_of_block hh)).trans hh, r⟩
theorem OwnS.strs {w : World} {base g n c : Nat} {l : List (List UInt8)} (h : OwnS w base (.slice (some ⟨g, 0, none⟩) n c) l) (hls : ∀ t ∈ l, t.length ≤ 200) : Strs w (some ⟨g, 0, none⟩) c l := by
  obtain ⟨A, cap, he, hS⟩ := h.shape hls
  cases he
  exact hS

set_option maxHeartbeats 4000000 in
theorem law_order (names : List (List UInt8)) (A : Option Addr) (cap : Nat) (b : Nat) (hc : cap ≤ maxLen) (hb : b < 256) (w : World) (hS : Strs w A cap names) (h : Tab w) :
    Calls Tryd.prog 6 #[.slice A names.length cap, .int .u8 b] w fun e w' => e = .returned (.bool true) ∧ Old w w' := by
  have hbd := bounded_any names A cap w hS hc
  go_enter Tryd.func6, Tryd.ntmps6
  go_wp2_with fail
  refine hbd.mono ?_
  clear hbd
  rintro e w1 ⟨rfl, rfl⟩
  by_cases hb1 : boundL names = true
  · obtain ⟨hn, hls⟩ := boundL_get hb1
    rw [hb1]
    clear hb1
    by_cases h0 : names.length = 0
    · go_wp2_with fail
      refine (shown_any _ h).mono ?_
      rintro e w1 ⟨rfl, o1⟩
      go_wp2
      go_ret
      exact ⟨rfl, o1⟩
    have hz : ((names.length : Int) == 0) = false := by rw [beq_eq_false_iff_ne]; omega
    obtain ⟨n, hnn⟩ : ∃ n, n = 1 + b % 64 := ⟨_, rfl⟩
    have hnI : (1 : Int) + (b : Int) % 64 = (n : Int) := by omega
    have hn1 : 1 ≤ n := by omega
    have hn2 : n ≤ 64 := by omega
    clear hnn
    have HLS := Lib.hid hls
    clear hls
    go_wp2_with fail
    refine (shown_any _ h).mono ?_
    rintro e w1 ⟨rfl, o1⟩
    go_wp2_with fail
    go_loopw [5, 6] (fun v i wr => ∃ m : Nat, m ≤ names.length ∧ i = .int .i64 ((m : Int) - 1) ∧ OwnS wr w.heap.size v (names.drop m).reverse ∧ Old w wr) (fun _ i _ => ((intOf i) + 1).toNat)
    case atStart =>
      refine ⟨names.length, Nat.le_refl _, by go_num, ?_, o1.al _⟩
      rw [List.drop_length]
      exact owns_new _ _ o1.size
    case round =>
      clear o1
      obtain ⟨m, hm, rfl, ho, hO⟩ := hrel
      rcases Nat.eq_zero_or_pos m with rfl | hpos
      · rw [List.drop_zero] at ho
        obtain ⟨A2, cap2, rfl, hS2⟩ := ho.shape (fun t ht => HLS.out t (List.mem_reverse.1 ht))
        have hpos : 0 < names.length := by omega
        have hlr : names.reverse.length = names.length := List.length_reverse
        have HK1 := Lib.hid fun w' => make_any names A cap n hn1 hn2 (by omega) (fun l hl => by have := HLS.out l hl; omega) w'
        have HK2 := Lib.hid fun w' => make_any names.reverse A2 cap2 n hn1 hn2 (by omega) (fun l hl => by have := HLS.out l (List.mem_reverse.1 hl); omega) w'
        have HK3 := Lib.hid fun g c w' => make_any (names ++ names) (some ⟨g, 0, none⟩) c n hn1 hn2 (by rw [List.length_append]; omega) (fun l hl => by have := HLS.out l (by simpa using hl); omega) w'
        have HK4 := Lib.hid fun g c w' => make_any (names.reverse ++ names) (some ⟨g, 0, none⟩) c n hn1 hn2 (by rw [List.length_append]; omega) (fun l hl => by have := HLS.out l (by simpa using hl); omega) w'
        have HL3 := Lib.hid (show ∀ t ∈ names ++ names, t.length ≤ 200 from fun t ht => HLS.out t (by simpa using ht))
        have HL4 := Lib.hid (show ∀ t ∈ names.reverse ++ names, t.length ≤ 200 from fun t ht => HLS.out t (by simpa using ht))
        have HE1 := Lib.hid (make_same names.reverse names n (by simp) (by simp))
        have HE2 := Lib.hid (make_same (names.reverse ++ names) (names ++ names) n (by simp) (by simp))
        rw [List.length_append] at HK3
        rw [List.length_append, hlr] at HK4
        rw [hlr, HE1.out] at HK2
        rw [HE2.out] at HK4
        rw [hlr]
        clear HE1 HE2 ho
        generalize makeL names n = fa at *
        generalize makeL (names ++ names) n = fb at *
        go_wp2_with fail
        refine (HK1.out _ (hS.old hO) (h.old hO)).mono ?_
        rintro e w2 ⟨rfl, o2⟩
        have o3 := hO.tr o2
        have hS3 := hS2.old o2
        clear hO o2 hS2 HK1
        go_wp2_with fail
        refine (HK2.out _ hS3 (h.old o3)).mono ?_
        rintro e w3 ⟨rfl, o4⟩
        have o5 := o3.tr o4
        have hS4 := hS3.old o4
        have hS5 := hS.old o5
        clear o3 o4 hS3 HK2
        go_wp2_with (first
          | (at_builtin; refine wp_apps rfl (.tmp 61) (.tmp 62) rfl rfl (owns_new w3 w3.heap.size (Nat.le_refl _)) names A cap rfl (hS5.old (old_alloc _ _)) hpos (by simp; omega) (by simp) ?_; intro g1 p1 w4 ho1 hbl1 hb1; simp only [List.length_nil, Nat.zero_add, List.nil_append] at ho1)
          | (at_builtin; refine wp_apps rfl (.tmp 63) (.tmp 64) rfl rfl ho1 names A cap rfl (hS5.old (Below.trans (old_alloc _ _) hbl1)) hpos (by omega) hb1 ?_; intro g2 p2 w5 ho2 hbl2 hb2)
          | fail)
        have hS6 := ho2.strs HL3.out
        have o6 : Old w3 w5 := Below.trans (Below.trans (old_alloc _ _) hbl1) hbl2
        have o7 := o5.tr o6
        have hS7 := hS4.old o6
        clear hS4 hS5 o5 o6 ho1 ho2 hbl1 hbl2 hb1 hb2
        refine (HK3.out g2 p2 w5 hS6 (h.old o7)).mono ?_
        rintro e w6 ⟨rfl, o8⟩
        have o9 := o7.tr o8
        have hS8 := hS7.old o8
        have hS9 := hS.old o9
        clear o7 o8 hS6 hS7 HK3
        go_wp2_with (first
          | (at_builtin; refine wp_apps rfl (.tmp 73) (.tmp 74) rfl rfl (owns_new w6 w6.heap.size (Nat.le_refl _)) names.reverse A2 cap2 (by rw [hlr]; rfl) (hS8.old (old_alloc _ _)) (by omega) (by simp; omega) (by simp) ?_; intro g3 p3 w7 ho3 hbl3 hb3; simp only [List.length_nil, Nat.zero_add, List.nil_append, List.length_reverse] at ho3)
          | (at_builtin; refine wp_apps rfl (.tmp 75) (.tmp 76) rfl (by first | rfl | (rw [hlr]; rfl)) ho3 names A cap rfl (hS9.old (Below.trans (old_alloc _ _) hbl3)) hpos (by omega) hb3 ?_; intro g4 p4 w8 ho4 hbl4 hb4; simp only [List.length_reverse] at ho4)
          | fail)
        have hSa := ho4.strs HL4.out
        have oa : Old w6 w8 := Below.trans (Below.trans (old_alloc _ _) hbl3) hbl4
        have ob := o9.tr oa
        clear hS8 hS9 o9 oa ho3 ho4 hbl3 hbl4 hb3 hb4
        refine (HK4.out g4 p4 w8 hSa (h.old ob)).mono ?_
        rintro e w9 ⟨rfl, oc⟩
        have od := ob.tr oc
        clear ob oc hSa HK4
        go_wp2
        go_ret
        exact ⟨rfl, od⟩
      · obtain ⟨q, rfl⟩ : ∃ q, m = q + 1 := ⟨m - 1, by omega⟩
        rw [show (((q + 1 : Nat) : Int) - 1) = (q : Int) by omega]
        have hq : q < names.length := by omega
        obtain ⟨hm1, bb, off, rfl, hcl⟩ := hS.at_ q hq
        have hcl2 := cell_old hcl hO
        have hnl := HLS.out _ (List.getElem_mem hq)
        have HD := Lib.hid (drop_rev names q hq)
        clear hcl
        generalize names[q] = t at *
        go_wp2_with (at_builtin; refine wp_apps1 rfl _ _ rfl rfl ho t (by omega) rfl (by simp; omega) hO.size ?_; intro g1 p1 w1 ho1 hbl1 hb1)
        rw [← HD.out] at ho1
        go_roundw
        case rel => exact ⟨q, by omega, by go_num, by simpa using ho1, Below.trans (hO.al _) hbl1⟩
        case measure => simp [intOf]
  · have hb2 : boundL names = false := by simpa using hb1
    rw [hb2]
    clear hb1 hb2
    go_wp2_with fail
    refine (shown_any _ h).mono ?_
    rintro e w1 ⟨rfl, o1⟩
    go_wp2
    go_ret
    exact ⟨rfl, o1⟩

theorem bloomOrder_contract (H : Type) (enc : TypeId × Value → H) (W : World) (base : Nat) (args : Array Value) (ds gs : List (DataW H)) (before : List MemPlace)
    (hval0 : ∀ (j : Nat) t v, Tryd.f6.params[j]? = some t → args[j]? = some v → Value.okWide Tryd.prog W .any base t v)
    (hW : DataW.Whole enc Tryd.prog Tryd.f6.params.toList Rows.bloomOrderSpec.vars false W args.toList ds gs before) (hL : laidMetH Tryd.prog Rows.bloomOrderRow.laid W) :
    Calls Tryd.prog 6 args W fun e W' => ∃ v, e = .returned v ∧ Rows.bloomOrderSpec.post enc Tryd.prog Tryd.f6 false true false false W args v W' := by
  have ht : Tab W := table hL
  have hval : ∀ (j : Nat) t v, Tryd.f6.params[j]? = some t → args[j]? = some v → Value.okWide Tryd.prog W .any base t v := hval0
  have hW' := hW
  obtain ⟨p, q, hA0, hV, rfl, hfz, hnd⟩ := hW
  have hA : DataW.TrodAll enc Tryd.prog W 0 (fun _ => true) true Tryd.f6.params.toList args.toList ds p := hA0
  rw [Tryd.params6] at hA hval
  obtain ⟨v0, v1, d0, d1, p0, p1, rfl, rfl, rfl, h0, h1⟩ := trodAll_two hA
  obtain ⟨rfl, rfl⟩ := trodVars_none hV
  have hlt : ∀ x ∈ p0 ++ (p1), x.block < W.heap.size := fun x hx => hW'.lt x (by simpa using hx)
  have k0 := h0
  have k1 := h1
  obtain ⟨a0, A0, c0, rfl, o0, m0⟩ := open_strs (hval 0 22 v0 rfl rfl) h0 (fun x hx => hlt x (by simp [hx]))
  obtain ⟨a1, rfl, o1⟩ := open_u8 (hval 1 5 v1 rfl rfl) h1
  clear hA0 hval0
  refine (law_order a0 A0 c0 a1 m0 o1 W o0 ht).mono fun e W' ⟨he, hb⟩ => ?_
  subst he
  refine ⟨_, rfl, _, _, _, [], p0 ++ (p1), [], hW', trodAll_mk1 (shut_bool Tryd.underlying4 _), ?_, rfl, hb.frame _, fun h => by cases h⟩
  have r0 := Below.trod Tryd.laidOut (by kernel_rfl) (of_decide_eq_true (by kernel_rfl)) k0 hb (fun x hx => hlt x (by simp [hx]))
  have r1 := Below.trod Tryd.laidOut (by kernel_rfl) (of_decide_eq_true (by kernel_rfl)) k1 hb (fun x hx => hlt x (by simp [hx]))
  exact trodAll_mk2 r0 r1

theorem bloomOrder_met (os : Os) : laidMet Tryd.prog Rows.bloomOrderRow.laid ((laidWorld os).forCall (fun _ _ => 0) ⟨#[], #[.slice none 0 0, .int .u8 0], []⟩).memory :=
  laidMet_of_run' 8 (by kernel_rfl) (by kernel_rfl)
theorem bloomOrder_reads (os : Os) {H : Type} (enc : TypeId × Value → H) : ∃ places, DataW.whole enc Tryd.prog ((laidWorld os).forCall (fun _ _ => 0) ⟨#[], #[.slice none 0 0, .int .u8 0], []⟩).memory Tryd.f6.params.toList Rows.bloomOrderSpec.vars false (#[.slice none 0 0, .int .u8 0] : Array Value).toList 8 = some ([.nil, .lit (.int .u8 0)], [], places) :=
  ⟨[], by kernel_rfl⟩

set_option maxRecDepth 100000 in
theorem bloomOrder_lifted (os : Os) (started : os.Started) (H : Type) (enc : TypeId × Value → H) (F : Stop.Interp) :
    ReturnsInHanded {} Tryd.checked os 6 .any ((OpenSpec.ofChange Rows.bloomOrderSpec).preRow enc Tryd.prog Tryd.f6 Rows.bloomOrderRow.domain false Rows.bloomOrderRow.laid) (((OpenSpec.ofChange Rows.bloomOrderSpec).at F).post enc Tryd.prog Tryd.f6 false true false false) := by
  obtain ⟨places, hx⟩ := bloomOrder_reads os enc
  refine returnsInHanded_of_row (C := Tryd.checked) (s := OpenSpec.ofChange Rows.bloomOrderSpec) Tryd.own started (by kernel_rfl) Tryd.func6
    (witness_row_at (enc := enc) (C := Tryd.checked) false (laidWorld os) #[.slice none 0 0, .int .u8 0] rfl (by kernel_rfl) (by kernel_rfl) (by kernel_rfl)
      (OpenSpec.preRow_of_cond 8 hx (by kernel_rfl) (fun k hk => by cases hk) (by kernel_rfl) (bloomOrder_met os))) ?_
  intro W base args ds gs before hval hW _ _ _ hL _ _
  exact bloomOrder_contract H enc W base args ds gs before hval hW hL

theorem bloomOrder_said : Rows.BloomOrderSaid :=
  OpenClaim.holds_of_cond 6 Tryd.f6 rfl rfl rfl rfl rfl rfl rfl ⟨rfl, rfl, rfl, rfl, rfl⟩ rfl rfl rfl rfl rfl (by kernel_rfl) Tryd.func6 (by kernel_rfl)
    (of_decide_eq_true (by kernel_rfl)) (by unfold Func.isWrapper; first | (rw [if_pos (by decide +kernel)]; kernel_rfl) | (rw [if_neg (by decide +kernel)]; exact ⟨rfl, rfl⟩))
    (fun os started H enc _ F => by rw [OpenClaim.pre_eq_preRow]; exact bloomOrder_lifted os started H enc F)

theorem bloomOrder_plain (f : FuncId) (fn : Func) (hf : Tryd.pinned.checked.prog.funcNamed Rows.bloomOrderRow.func = some f) (hfn : Tryd.pinned.checked.prog.funcs[f]? = some fn) :
    false = Tryd.pinned.checked.prog.looks [] ∧ ∀ (j : Nat) t, fn.params[j]? = some t → Tryd.pinned.checked.prog.wantsStandIn t = false := by
  obtain rfl : f = 6 := Option.some.inj ((show Tryd.prog.funcNamed Rows.bloomOrderRow.func = some 6 by kernel_rfl).symm.trans hf) |>.symm
  obtain rfl : fn = Tryd.f6 := (Option.some.inj (Tryd.func6.symm.trans hfn)).symm
  refine ⟨by kernel_rfl, fun j t ht => ?_⟩
  rw [Tryd.params6] at ht
  have hm := Array.mem_of_getElem? ht
  simp only [List.mem_toArray, List.mem_cons, List.not_mem_nil, or_false] at hm
  rcases hm with rfl | rfl
  all_goals first
    | exact (show Tryd.prog.wantsStandIn 22 = false by kernel_rfl)
    | exact (show Tryd.prog.wantsStandIn 5 = false by kernel_rfl)

theorem bloomOrder_card : Rows.BloomOrderCardSaid :=
  Claim7.holds_tied_plain_at .later [] _ _ _ _ bloomOrder_said (fun _ h => by cases h) (by kernel_rfl) (fun _ h => by cases h) bloomOrder_row_tie rfl ⟨rfl, rfl⟩ (by kernel_rfl) rfl bloomOrder_plain (by kernel_rfl)
#print axioms bloomOrder_card
end Go.Proofs.YtphonnihibikcaaDoor
