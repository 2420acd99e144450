/-
  TableApart: whatever two lists of cells, and whatever two numbers, come in, the law answers true, and leaves all as it was. Conditions: the row's own.
-/
import Derived.Test.YtlmlopdakbbbjaaDoorTLft
namespace Go.Proofs.YtlmlopdakbbbjaaDoor
open Go.ChangeShapes Go.WideShapes Go.ChangeAt Go.RowKit Go.Joins Go.Deep

theorem neqCell (a b : Cel) (w : World) : (binOp .neq 45 (cv a) (cv b)).run Tryd.prog w = .ok (.bool (!eqB a b)) w := by
  by_cases h1 : a.row = b.row
  case neg => go_simp; simp [eqB, *]
  by_cases h2 : a.col = b.col
  case neg => go_simp; simp [eqB, *]
  by_cases h3 : a.ts = b.ts
  case neg =>
    have h3' : ¬ ((a.ts : Int) = (b.ts : Int)) := by omega
    go_simp; simp [eqB, *]
  by_cases h4 : a.seq = b.seq
  case neg =>
    have h4' : ¬ ((a.seq : Int) = (b.seq : Int)) := by omega
    go_simp; simp [eqB, *]
  by_cases h5 : a.del = b.del
  case neg => go_simp; simp [eqB, *]
  by_cases h6 : a.val = b.val
  case neg => go_simp; simp [eqB, *]
  go_simp; simp [eqB, *]
theorem take_eq_cel {l m : List Cel} {k : Nat} (h1 : k < l.length) (h2 : k < m.length) : (l.take (k + 1) = m.take (k + 1)) ↔ (l.take k = m.take k ∧ l[k] = m[k]) := by
  rw [List.take_succ_eq_append_getElem h1, List.take_succ_eq_append_getElem h2]
  constructor
  · intro h
    have := List.append_inj h (by simp; omega)
    simpa using this
  · rintro ⟨h3, h4⟩
    rw [h3, h4]
/-- Are two lists the same? -/
noncomputable def sameL (l m : List Cel) : Bool := @decide (l = m) (Classical.propDecidable _)
theorem sameL_yes {l m : List Cel} (h : l = m) : sameL l m = true := by unfold sameL; simpa using h
theorem sameL_no {l m : List Cel} (h : l ≠ m) : sameL l m = false := by unfold sameL; simpa using h
set_option maxRecDepth 100000 in
set_option maxHeartbeats 4000000 in
theorem rsame_any (v v' : Value) (l m : List Cel) (w : World) (h : CelC w v l) (h' : CelC w v' m) (hl : l.length ≤ 1000) (hm : m.length ≤ 1000) :
    Calls Tryd.prog 16 #[v, v'] w fun e w' => e = .returned (.bool (sameL l m)) ∧ Old w w' := by
  obtain ⟨A, cap, rfl, -, hC⟩ := h
  obtain ⟨A', cap', rfl, -, hC'⟩ := h'
  by_cases hlm : l.length = m.length
  case neg =>
    have hb : (((l.length : Nat) : Int) != ((m.length : Nat) : Int)) = true := by rw [bne_iff_ne]; omega
    have HE := Lib.hid (sameL_no (l := l) (m := m) (fun e => hlm (by rw [e])))
    go_enter Tryd.func16, Tryd.ntmps16
    go_wp2
    go_ret
    exact ⟨ret_bool HE.out.symm, Old.re _⟩
  have hb : (((l.length : Nat) : Int) != ((m.length : Nat) : Int)) = false := by simp [hlm]
  go_enter Tryd.func16, Tryd.ntmps16
  go_wp2_with fail
  go_loopw [5] (fun i wr => ∃ k : Nat, k ≤ l.length ∧ i = .int .i64 k ∧ Old w wr ∧ Hid (l.take k = m.take k)) (fun i _ => l.length - (intOf i).toNat)
  case atStart => exact ⟨0, Nat.zero_le _, rfl, Old.re _, Lib.hid rfl⟩
  case round =>
    obtain ⟨k, hk, rfl, hw, HR⟩ := hrel
    by_cases h1 : k < l.length
    · have h2 : k < m.length := by omega
      obtain ⟨b, off, rfl, hA⟩ := hC (by rintro rfl; simp at h1)
      obtain ⟨b', off', rfl, hA'⟩ := hC' (by rintro rfl; simp at h2)
      have hx := (hA.at_ k h1).old hw
      have hy := (hA'.at_ k h2).old hw
      have HS := Lib.hid (take_eq_cel h1 h2)
      have HN := Lib.hid (show l[k] ≠ m[k] → l ≠ m from fun h e => h (by subst e; rfl))
      generalize l[k] = c at *
      generalize m[k] = d at *
      obtain ⟨a0, a1, a2, a3, a4, a5⟩ := hx.held
      obtain ⟨b0, b1, b2, b3, b4, b5⟩ := hy.held
      have i1 : (k : Int) < (l.length : Int) := by omega
      have i2 : (k : Int) < (m.length : Int) := by omega
      have he := fun W => neqCell c d W
      clear hb
      cases hq : eqB c d with
      | true =>
        have HX := Lib.hid ((eqB_iff c d).1 hq)
        rw [hq] at he
        clear hq
        go_wp2_with fail
        go_quiet (fail)
        go_wp2
        go_roundw
        case rel => exact ⟨k + 1, by omega, by go_num, hw.dn _, Lib.hid (HS.out.2 ⟨HR.out, HX.out⟩)⟩
        case measure => simp [intOf]; omega
      | false =>
        have HX := Lib.hid (sameL_no (HN.out (fun e => by rw [(eqB_iff c d).2 e] at hq; cases hq)))
        rw [hq] at he
        clear hq
        go_wp2_with fail
        go_quiet (fail)
        go_wp2
        go_ret
        exact ⟨ret_bool HX.out.symm, hw.dn _⟩
    · have HE := Lib.hid (sameL_yes (l := l) (m := m) (by have := HR.out; rwa [List.take_of_length_le (by omega), List.take_of_length_le (by omega)] at this))
      go_wp2
      go_ret
      exact ⟨ret_bool HE.out.symm, hw⟩

theorem tbl_inj {l m : List Cel} {x y : Nat} (hx : x < 18446744073709551616) (hy : y < 18446744073709551616) (hl : errT l = 0) (hm : errT m = 0) (ol : ∀ c ∈ l, c.ok) (om : ∀ c ∈ m, c.ok) (h : tbl l x = tbl m y) : l = m ∧ x = y := by
  have h1 := openO_tbl l x hx hl ol
  rw [h, openO_tbl m y hy hm om] at h1
  injection h1 with h1
  injection h1 with h2 h3
  exact ⟨h2.symm, h3.symm⟩

set_option maxRecDepth 100000 in
set_option maxHeartbeats 8000000 in
theorem law_apart (v v' : Value) (l m : List Cel) (x y : Nat) (w : World) (h : CelC w v l) (hok : ∀ c ∈ l, c.ok) (hml : l.length ≤ maxLen) (h' : CelC w v' m) (hok' : ∀ c ∈ m, c.ok) (hml' : m.length ≤ maxLen) (hx : x < 18446744073709551616) (hy : y < 18446744073709551616) (ht : Tab w) :
    Calls Tryd.prog 6 #[v, v', .int .u64 x, .int .u64 y] w fun e w' => e = .returned (.bool true) ∧ Old w w' := by
  go_enter Tryd.func6, Tryd.ntmps6
  go_wp2_with fail
  refine (bounded_at v l _ h.cels hml).mono ?_
  rintro e w1 ⟨rfl, rfl⟩
  cases hbd : bdT l with
  | false =>
    go_wp2_with (go_at_call 9; refine (shown_any _ ht).mono ?_; rintro e w1 ⟨rfl, k1⟩)
    go_ret
    exact ⟨rfl, k1⟩
  | true =>
    have hl := bdT_len hbd
    clear hbd hml
    go_wp2_with fail
    refine (bounded_at v' m _ h'.cels hml').mono ?_
    rintro e w1 ⟨rfl, rfl⟩
    cases hbd : bdT m with
    | false =>
      go_wp2_with (go_at_call 9; refine (shown_any _ ht).mono ?_; rintro e w1 ⟨rfl, k1⟩)
      go_ret
      exact ⟨rfl, k1⟩
    | true =>
      have hm := bdT_len hbd
      clear hbd hml'
      go_wp2_with fail
      refine (shown_any _ ht).mono ?_
      rintro e w1 ⟨rfl, k1⟩
      go_wp2_with fail
      refine (tbuild_any v l x _ (h.old k1) hok (by omega) hx (ht.old k1)).mono ?_
      rintro e w2 ⟨rfl, k2⟩
      have o2 := k1.tr k2
      clear k1 k2
      by_cases he : errT l = 0
      case neg =>
        rw [buildTV_no x rfl he]
        have hne : (errT l != 0) = true := by simpa using he
        have hne2 : (errT l == 0) = false := by simpa using he
        go_wp2_with fail
        refine (tbuild_any v' m y _ (h'.old o2) hok' (by omega) hy (ht.old o2)).mono ?_
        rintro e w3 ⟨rfl, k3⟩
        have o3 := o2.tr k3
        by_cases he' : errT m = 0
        · rw [buildTV_yes y he']
          generalize tbl m y = t at *
          go_wp2
          go_ret
          exact ⟨rfl, o3⟩
        · rw [buildTV_no y rfl he']
          have hne3 : (errT m == 0) = false := by simpa using he'
          go_wp2
          go_ret
          exact ⟨rfl, o3⟩
      rw [buildTV_yes x he]
      generalize hs : tbl l x = s at *
      have HS := Lib.hid hs
      clear hs
      go_wp2_with fail
      refine (tbuild_any v' m y _ (h'.old o2) hok' (by omega) hy (ht.old o2)).mono ?_
      rintro e w3 ⟨rfl, k3⟩
      have o3 := o2.tr k3
      clear o2 k3
      by_cases he' : errT m = 0
      case neg =>
        rw [buildTV_no y rfl he']
        have hne : (errT m != 0) = true := by simpa using he'
        have hne3 : (errT m == 0) = false := by simpa using he'
        go_wp2
        go_ret
        exact ⟨rfl, o3⟩
      rw [buildTV_yes y he']
      have HI := Lib.hid (fun hh => tbl_inj (x := x) (y := y) hx hy he he' hok hok' hh)
      rw [HS.out] at HI
      generalize ht2 : tbl m y = t at *
      have HT2 := Lib.hid ht2
      clear ht2 he he'
      by_cases hxy : x = y
      case neg =>
        have hst : (s == t) = false := by rw [beq_eq_false_iff_ne]; exact fun e => hxy (HI.out e).2
        have hxe : ((x : Int) == (y : Int)) = false := by rw [beq_eq_false_iff_ne]; omega
        go_wp2
        go_ret
        exact ⟨rfl, o3⟩
      have hxe : ((x : Int) == (y : Int)) = true := by rw [beq_iff_eq]; omega
      have hv := h.old o3
      have hv' := h'.old o3
      by_cases hlm : l = m
      · have hst : (s == t) = true := by rw [beq_iff_eq, ← HS.out, ← HT2.out, hlm, hxy]
        have HQ := Lib.hid (sameL_yes hlm)
        clear HI hlm hxy
        go_wp2_with fail
        refine (rsame_any v v' l m _ hv hv' (by omega) (by omega)).mono ?_
        rintro e w4 ⟨rfl, k4⟩
        rw [HQ.out]
        have o4 := o3.tr k4
        go_wp2
        go_ret
        exact ⟨rfl, o4⟩
      · have hst : (s == t) = false := by rw [beq_eq_false_iff_ne]; exact fun e => hlm (HI.out e).1
        have HQ := Lib.hid (sameL_no hlm)
        clear HI hlm hxy
        go_wp2_with fail
        refine (rsame_any v v' l m _ hv hv' (by omega) (by omega)).mono ?_
        rintro e w4 ⟨rfl, k4⟩
        rw [HQ.out]
        have o4 := o3.tr k4
        go_wp2
        go_ret
        exact ⟨rfl, o4⟩

set_option maxRecDepth 100000 in
theorem tableApart_contract (H : Type) (enc : TypeId × Value → H) (W : World) (base : Nat) (args : Array Value) (ds gs : List (DataW H)) (before : List MemPlace)
    (hval0 : ∀ (j : Nat) t v, Tryd.f6.params[j]? = some t → args[j]? = some v → Value.okWide Tryd.prog W .any base t v)
    (hW : DataW.Whole enc Tryd.prog Tryd.f6.params.toList Rows.tableApartSpec.vars false W args.toList ds gs before) (hL : laidMetH Tryd.prog Rows.tableApartRow.laid W) :
    Calls Tryd.prog 6 args W fun e W' => ∃ v, e = .returned v ∧ Rows.tableApartSpec.post enc Tryd.prog Tryd.f6 false true false false W args v W' := by
  have ht : Tab W := table hL
  have hval : ∀ (j : Nat) t v, Tryd.f6.params[j]? = some t → args[j]? = some v → Value.okWide Tryd.prog W .any base t v := hval0
  have hW' := hW
  obtain ⟨p, q, hA0, hV, rfl, hfz, hnd⟩ := hW
  have hA : DataW.TrodAll enc Tryd.prog W 0 (fun _ => true) true Tryd.f6.params.toList args.toList ds p := hA0
  rw [Tryd.params6] at hA hval
  obtain ⟨v0, v1, v2, v3, d0, d1, d2, d3, p0, p1, p2, p3, rfl, rfl, rfl, h0, h1, h2, h3⟩ := trodAll_four' hA
  obtain ⟨rfl, rfl⟩ := trodVars_none hV
  have hlt : ∀ x ∈ p0 ++ (p1 ++ (p2 ++ (p3))), x.block < W.heap.size := fun x hx => hW'.lt x (by simpa using hx)
  have k0 := h0
  have k1 := h1
  have k2 := h2
  have k3 := h3
  obtain ⟨a0, o0, q0, m0, x0⟩ := open_cels (hval 0 22 v0 rfl rfl) h0 (fun x hx => hlt x (by simp [hx]))
  obtain ⟨a1, o1, q1, m1, x1⟩ := open_cels (hval 1 22 v1 rfl rfl) h1 (fun x hx => hlt x (by simp [hx]))
  obtain ⟨a2, rfl, o2⟩ := open_u64 (hval 2 23 v2 rfl rfl) h2
  obtain ⟨a3, rfl, o3⟩ := open_u64 (hval 3 23 v3 rfl rfl) h3
  clear hA0 hval0
  refine (law_apart v0 v1 a0 a1 a2 a3 W (o0.room x0) q0 m0 (o1.room x1) q1 m1 o2 o3 ht).mono fun e W' ⟨he, hb⟩ => ?_
  subst he
  refine ⟨_, rfl, _, _, _, [], p0 ++ (p1 ++ (p2 ++ (p3))), [], hW', trodAll_mk1 (shut_bool Tryd.underlying4 _), ?_, rfl, hb.frame _, fun h => by cases h⟩
  have r0 := Below.trod Tryd.laidOut (by kernel_rfl) (of_decide_eq_true (by kernel_rfl)) k0 hb (fun x hx => hlt x (by simp [hx]))
  have r1 := Below.trod Tryd.laidOut (by kernel_rfl) (of_decide_eq_true (by kernel_rfl)) k1 hb (fun x hx => hlt x (by simp [hx]))
  have r2 := Below.trod Tryd.laidOut (by kernel_rfl) (of_decide_eq_true (by kernel_rfl)) k2 hb (fun x hx => hlt x (by simp [hx]))
  have r3 := Below.trod Tryd.laidOut (by kernel_rfl) (of_decide_eq_true (by kernel_rfl)) k3 hb (fun x hx => hlt x (by simp [hx]))
  exact trodAll_mk4 r0 r1 r2 r3

set_option maxRecDepth 100000 in
theorem tableApart_met (os : Os) : laidMet Tryd.prog Rows.tableApartRow.laid ((laidWorld os).forCall (fun _ _ => 0) ⟨#[], #[.slice none 0 0, .slice none 0 0, .int .u64 0, .int .u64 0], []⟩).memory :=
  laidMet_of_run' 8 (by kernel_rfl) (by kernel_rfl)
set_option maxRecDepth 100000 in
theorem tableApart_reads (os : Os) {H : Type} (enc : TypeId × Value → H) : ∃ places, DataW.whole enc Tryd.prog ((laidWorld os).forCall (fun _ _ => 0) ⟨#[], #[.slice none 0 0, .slice none 0 0, .int .u64 0, .int .u64 0], []⟩).memory Tryd.f6.params.toList Rows.tableApartSpec.vars false (#[.slice none 0 0, .slice none 0 0, .int .u64 0, .int .u64 0] : Array Value).toList 8 = some ([.nil, .nil, .lit (.int .u64 0), .lit (.int .u64 0)], [], places) :=
  ⟨[], by kernel_rfl⟩

set_option maxRecDepth 100000 in
theorem tableApart_lifted (os : Os) (started : os.Started) (H : Type) (enc : TypeId × Value → H) (F : Stop.Interp) :
    ReturnsInHanded {} Tryd.checked os 6 .any ((OpenSpec.ofChange Rows.tableApartSpec).preRow enc Tryd.prog Tryd.f6 Rows.tableApartRow.domain false Rows.tableApartRow.laid) (((OpenSpec.ofChange Rows.tableApartSpec).at F).post enc Tryd.prog Tryd.f6 false true false false) := by
  obtain ⟨places, hx⟩ := tableApart_reads os enc
  refine returnsInHanded_of_row (C := Tryd.checked) (s := OpenSpec.ofChange Rows.tableApartSpec) Tryd.own started (by kernel_rfl) Tryd.func6
    (witness_row_at (enc := enc) (C := Tryd.checked) false (laidWorld os) #[.slice none 0 0, .slice none 0 0, .int .u64 0, .int .u64 0] rfl (by kernel_rfl) (by kernel_rfl) (by kernel_rfl)
      (OpenSpec.preRow_of_cond 8 hx (by kernel_rfl) (fun k hk => by cases hk) (by kernel_rfl) (tableApart_met os))) ?_
  intro W base args ds gs before hval hW _ _ _ hL _ _
  exact tableApart_contract H enc W base args ds gs before hval hW hL

set_option maxRecDepth 100000 in
theorem tableApart_said : Rows.TableApartSaid :=
  OpenClaim.holds_of_cond 6 Tryd.f6 rfl rfl rfl rfl rfl rfl rfl ⟨rfl, rfl, rfl, rfl, rfl⟩ rfl rfl rfl rfl rfl (by kernel_rfl) Tryd.func6 (by kernel_rfl)
    (of_decide_eq_true (by kernel_rfl)) (by unfold Func.isWrapper; first | (rw [if_pos (by decide +kernel)]; kernel_rfl) | (rw [if_neg (by decide +kernel)]; exact ⟨rfl, rfl⟩))
    (fun os started H enc _ F => by rw [OpenClaim.pre_eq_preRow]; exact tableApart_lifted os started H enc F)

set_option maxRecDepth 100000 in
theorem tableApart_plain (f : FuncId) (fn : Func) (hf : Tryd.pinned.checked.prog.funcNamed Rows.tableApartRow.func = some f) (hfn : Tryd.pinned.checked.prog.funcs[f]? = some fn) :
    false = Tryd.pinned.checked.prog.looks [] ∧ ∀ (j : Nat) t, fn.params[j]? = some t → Tryd.pinned.checked.prog.wantsStandIn t = false := by
  obtain rfl : f = 6 := Option.some.inj ((show Tryd.prog.funcNamed Rows.tableApartRow.func = some 6 by kernel_rfl).symm.trans hf) |>.symm
  obtain rfl : fn = Tryd.f6 := (Option.some.inj (Tryd.func6.symm.trans hfn)).symm
  refine ⟨by kernel_rfl, fun j t ht => ?_⟩
  rw [Tryd.params6] at ht
  have hm := Array.mem_of_getElem? ht
  simp only [List.mem_toArray, List.mem_cons, List.not_mem_nil, or_false] at hm
  rcases hm with rfl | rfl | rfl | rfl
  all_goals first
    | exact (show Tryd.prog.wantsStandIn 22 = false by kernel_rfl)
    | exact (show Tryd.prog.wantsStandIn 23 = false by kernel_rfl)

set_option maxRecDepth 100000 in
theorem tableApart_card : Rows.TableApartCardSaid :=
  Claim7.holds_tied_plain_at .later [] _ _ _ _ tableApart_said (fun _ h => by cases h) (by kernel_rfl) (fun _ h => by cases h) tableApart_row_tie rfl ⟨rfl, rfl⟩ (by kernel_rfl) rfl tableApart_plain (by kernel_rfl)
#print axioms tableApart_card
end Go.Proofs.YtlmlopdakbbbjaaDoor
