/-
  MergeMany: whatever two numbers come in, the law answers true. No conditions.
-/
import Derived.Test.YtbccpplpfcfboaaRLft
import Derived.Lib.AppendStr
namespace Go.Proofs.Ytbccpplpfcfboaa
open Go.ChangeShapes Go.WideShapes Go.ChangeAt Go.RowKit Go.Joins Go.Deep

def bs (l : List UInt8) : List Value := l.map fun b => .int .u8 (b.toNat : Int)
theorem bs_length (l : List UInt8) : (bs l).length = l.length := by simp [bs]
theorem fold_push (l : List UInt8) : ∀ r : ByteArray, ((l.map fun b => (b.toNat : Int)).foldl (fun r n => r.push (UInt8.ofNat n.toNat)) r) = ⟨r.data ++ l.toArray⟩ := by
  induction l with
  | nil => intro r; simp
  | cons b l ih =>
    intro r
    simp only [List.map_cons, List.foldl_cons]
    rw [ih]
    simp [ByteArray.push]
/-- string([]byte{..}). -/
theorem str_new (w : World) (cs : Array Value) (l : List UInt8) (n cap : Nat) (hn : n = l.length) (hcs : cs = (bs l).toArray) :
    (convert 58 9 (.slice (some ⟨w.heap.size, 0, none⟩) n cap)).run Try.prog (w.alloc (.cells cs 5)) = .ok (.string (B l)) (w.alloc (.cells cs 5)) := by
  subst hn hcs
  rw [run_convert_bytes_string _ _ _ _ _ _ _ Try.underlying58 Try.underlying5 Try.underlying9]
  rw [run_bytesToString _ ⟨w.heap.size, 0, none⟩ l.length cap (l.map fun b => (b.toNat : Int)) ?_]
  · rw [fold_push]
    show Result.ok (Value.string ⟨#[] ++ l.toArray⟩) _ = _
    rw [Array.empty_append]
  · have h1 := run_loadCells_list (P := Try.prog) (w.alloc (.cells (bs l).toArray 5)) ⟨w.heap.size, 0, none⟩ (bs l) (fun j u hu => by
      have h1 := cell_of_row _ w.heap.size j _ _ _ (heap_alloc_new w (.cells (bs l).toArray 5))
      rw [Addr.add_lit, Nat.zero_add, h1]
      simpa using hu)
    rw [bs_length] at h1
    rw [h1]
    simp [bs]
theorem mod_of (a q c : Nat) (qi ci : Int) (h1 : qi = (q : Int)) (h2 : ci = (c : Int)) (hq : 0 < q) : ∃ r k : Nat, (a : Int) % qi = (r : Int) ∧ ci + (r : Int) = (k : Int) ∧ c ≤ k ∧ k < c + q := by
  subst h1 h2
  exact ⟨a % q, c + a % q, by omega, by omega, by omega, by have := Nat.mod_lt a hq; omega⟩
/-- The i-th item. -/
def xi (i : Nat) : Itm := ⟨⟨[UInt8.ofNat (1 + i)], [99], 0, 0, false, []⟩, (i : Int)⟩
theorem xi_lt {i j : Nat} (h : i < j) (hj : j < 100) : cmpK (xi i) (xi j) = -1 := by
  have key : ∀ (i j : Fin 100), i < j → cmpT [UInt8.ofNat (1 + i.1)] [UInt8.ofNat (1 + j.1)] = -1 := by decide +kernel
  rw [cmpK_or]
  have := key ⟨i, by omega⟩ ⟨j, hj⟩ h
  show or4 (cmpT [UInt8.ofNat (1 + i)] [UInt8.ofNat (1 + j)]) _ _ 0 = -1
  dsimp only at this
  rw [this]
  rfl
def lsN (n : Nat) : List (List Itm) := (List.range n).map fun i => [xi i]
theorem lsN_len (n : Nat) : (lsN n).length = n := by simp [lsN]
theorem lsN_flat (n : Nat) : (lsN n).flatten = (List.range n).map xi := by
  unfold lsN
  induction n with
  | zero => rfl
  | succ n ih => rw [List.range_succ, List.map_append, List.flatten_append, ih, List.map_append]; rfl
theorem lsN_strict (n : Nat) (hn : n ≤ 100) : Strict (lsN n).flatten := by
  rw [lsN_flat]
  refine List.pairwise_iff_getElem.2 fun i j hi hj hij => ?_
  simp only [List.length_map, List.length_range] at hi hj
  rw [List.getElem_map, List.getElem_map, List.getElem_range, List.getElem_range]
  exact xi_lt hij (by omega)
theorem lsN_each (n : Nat) : ∀ L ∈ lsN n, Strict L := fun L hL => by
  obtain ⟨i, -, rfl⟩ := List.mem_map.1 hL
  exact List.pairwise_singleton _ _
/-- Lists of one item each, in memory of the call's own. -/
def RowO (W0 w : World) (v : Value) (k : Nat) : Prop := ∃ vs, w.ownsRow W0.heap.size 32 1 v k vs ∧ vs.length = k ∧ ∀ i, i < k → ∃ g, vs[i]? = some (.slice (some ⟨g, 0, none⟩) 1 1) ∧ Bk w g 59 (icells (xi i))
theorem RowO.lsts {W0 w : World} {v : Value} {k : Nat} (h : RowO W0 w v k) : Lsts w v (lsN k) := by
  obtain ⟨vs, h1, h2, h3⟩ := h
  rcases h1.2 with ⟨rfl, rfl⟩ | ⟨g, cap, cur, rfl, hb, hg, hnc, hcm, hcs, htake⟩
  · exact .inl ⟨rfl, rfl⟩
  · refine .inr ⟨⟨g, 0, none⟩, cap, by rw [lsN_len], by rw [lsN_len]; exact hnc, fun _ => ⟨g, 0, rfl, fun i L hL => ?_⟩⟩
    obtain ⟨hi, rfl⟩ := List.getElem?_eq_some_iff.1 hL
    have hi2 : i < k := by rwa [lsN_len] at hi
    obtain ⟨gi, e1, e2⟩ := h3 i hi2
    have hc := World.ownsRow.cells h1 (g := g) rfl i _ e1
    rw [Addr.add_lit] at hc
    refine ⟨_, hc, ?_⟩
    have : (lsN k)[i] = [xi i] := by simp [lsN]
    rw [this]
    exact one_its e2
theorem RowO.step {W0 w1 w' : World} {v v' : Value} {k : Nat} {vs : List Value} {g : Nat} (h1 : w1.ownsRow W0.heap.size 32 1 v k vs) (h2 : vs.length = k) (h3 : ∀ i, i < k → ∃ g, vs[i]? = some (.slice (some ⟨g, 0, none⟩) 1 1) ∧ Bk w1 g 59 (icells (xi i))) (hg : Bk w1 g 59 (icells (xi k)))
    (hn : w'.ownsRow W0.heap.size 32 1 v' (k + 1) (vs ++ [.slice (some ⟨g, 0, none⟩) 1 1])) (hgr : w1.grownBy w' v.ownBlock) : RowO W0 w' v' (k + 1) := by
  refine ⟨_, hn, by simp [h2], fun i hi => ?_⟩
  by_cases h : i < k
  · obtain ⟨gi, e1, e2⟩ := h3 i h
    exact ⟨gi, by rw [List.getElem?_append_left (by omega)]; exact e1, e2.grown hgr (row_ne h1 e2 (by decide))⟩
  · obtain rfl : i = k := by omega
    exact ⟨g, by rw [← h2]; simp, hg.grown hgr (row_ne h1 hg (by decide))⟩
/-- append of one slice of items to a row of such. -/
theorem wp_rowL {ops : Array Oper} {rest : List Oper} {op : Oper} {a : Act} {Q : Exit → Act → World → Prop} {W0 w : World} (hgd : op.guard = none) (s x : Operand)
    (ho : op.op = .call { callee := .builtin .append, args := #[s, x], argTypes := #[30, 30] })
    (hW : Old W0 w) (v : Value) (vs : List Value) (n : Nat) (hs : a.eval s = v) (hown : w.ownsRow W0.heap.size 32 1 v n vs) (u : Value) (hu : u.oneCell' = true) (g c : Nat) (hx : a.eval x = .slice (some ⟨g, 0, none⟩) 1 c) (hg : Bk w g 32 #[u]) (hlen : n ≤ 100000)
    (h : ∀ v' w', w'.ownsRow W0.heap.size 32 1 v' (n + 1) (vs ++ [u]) → Old W0 w' → w.grownBy w' v.ownBlock → wpList Try.prog ops Q rest (a.put op.dst v') w') : wpList Try.prog ops Q (op :: rest) a w := by
  obtain ⟨v', w', hr, h2, h3⟩ := run_one 30 32 (.slice none 0 0) 24 (by omega) Try.underlying30 rfl Try.infoSl hW.size hown u hu g c hg hlen op.type
  refine wpList_plain hgd fun K hK => ?_
  unfold Oper.wp execOp
  simp only [ho, resolve, invoke, builtin, Sem.run_bind, Sem.run_pure, Result.andThen_ok, List.map_toArray, List.map_cons, List.map_nil, hs, hx, hr]
  exact hK _ _ (h v' w' h2 (hW.trans ((Below.refl _ _).grown h3 hW.size (fun k hk => (World.ownsRow.lt hown k hk).1))) h3)

set_option maxRecDepth 100000 in
set_option maxHeartbeats 8000000 in
theorem law_many (n width : Nat) (hn : n < 256) (hw : width < 256) (w : World) :
    Calls Try.prog 7 #[.int .u8 (n : Int), .int .u8 (width : Int)] w fun e w' => e = .returned (.bool true) ∧ Old w w' := by
  obtain ⟨rw_, m, ew1, ew2, ew3, ew4⟩ := mod_of width 5 2 5 2 rfl rfl (by omega)
  obtain ⟨N, _, en1, -, -, hN⟩ := mod_of n 60 0 60 0 rfl rfl (by omega)
  have hN2 : N < 60 := by omega
  go_enter Try.func7, Try.ntmps7
  go_wp2_with fail
  clear ew1 ew2
  go_loopw [6, 7] (fun lv iv wr => ∃ (k : Nat) (A : Option Addr) (cap : Nat), lv = .slice A k cap ∧ iv = .int .i64 k ∧ k ≤ N ∧ Old w wr ∧ Hid (RowO w wr (.slice A k cap) k)) (fun _ iv _ => N - (intOf iv).toNat)
  case atStart => exact ⟨0, _, _, rfl, rfl, Nat.zero_le _, old_alloc _ _, Lib.hid ⟨[], ⟨rfl, .inr ⟨w.heap.size, 0, #[], rfl, Nat.le_refl _, new_bk _ _ _, Nat.le_refl _, by simp, rfl, rfl⟩⟩, rfl, fun i hi => absurd hi (by omega)⟩⟩
  case round =>
    obtain ⟨k, A, cap, rfl, rfl, hk, o1, HR⟩ := hrel
    by_cases hlt : k < N
    · have i1 : (k : Int) < (N : Int) := by omega
      have hu8 : IntKind.u8.wrap (1 + (k : Int)) = 1 + (k : Int) := by rw [IntKind.wrap_u8]; omega
      obtain ⟨bk, hbk⟩ : ∃ bk, UInt8.ofNat (1 + k) = bk := ⟨_, rfl⟩
      have HXI : Hid (xi k = ⟨⟨[bk], [99], 0, 0, false, []⟩, (k : Int)⟩) := Lib.hid (by unfold xi; rw [hbk])
      have hcv := str_new wr #[.int .u8 (1 + (k : Int))] [bk] 1 1 rfl (by rw [← hbk]; simp [bs]; omega)
      clear hbk
      obtain ⟨vs, hr1, hr2, hr3⟩ := HR.out
      have HV := Lib.hid (And.intro hr2 hr3)
      have o4 : Old wr ((((wr.alloc (.cells #[.int .u8 (1 + (k : Int))] 5)).alloc (.cells (icells ⟨⟨[bk], [99], 0, 0, false, []⟩, (k : Int)⟩) 59)).alloc (.cells #[.slice (some ⟨wr.heap.size + 1, 0, none⟩) 1 1] 32))) := ((old_alloc _ _).al _).al _
      have hrw := row_dr hr1 o4
      have HX := Lib.hid ((new_bk1 wr (.cells #[.int .u8 (1 + (k : Int))] 5) 59 (icells ⟨⟨[bk], [99], 0, 0, false, []⟩, (k : Int)⟩)).alloc (.cells #[.slice (some ⟨wr.heap.size + 1, 0, none⟩) 1 1] 32))
      have HRW := Lib.hid (And.intro hrw o4)
      have hb3 := new_bk1 (wr.alloc (.cells #[.int .u8 (1 + (k : Int))] 5)) (.cells (icells ⟨⟨[bk], [99], 0, 0, false, []⟩, (k : Int)⟩) 59) 32 #[.slice (some ⟨wr.heap.size + 1, 0, none⟩) 1 1]
      simp only [World.size_alloc] at hb3
      have HB3 := Lib.hid hb3
      clear hr1 hr2 hr3 hrw o4 hb3
      go_wp2_with (at_builtin; refine Hid.out ?_)
      refine Lib.hid ?_
      refine wp_rowL rfl (.tmp 25) (.tmp 35) rfl (W0 := w) (o1.tr HRW.out.2) _ vs k rfl HRW.out.1 _ rfl _ 1 rfl HB3.out (by omega) ?_
      intro v8 w8 n8 o8 g8
      have HO8 : Hid (RowO w w8 v8 (k + 1)) := Lib.hid (RowO.step HRW.out.1 HV.out.1 (fun i hi => by
        obtain ⟨g, e1, e2⟩ := HV.out.2 i hi
        exact ⟨g, e1, e2.old HRW.out.2⟩) (by rw [HXI.out]; exact HX.out) n8 g8)
      obtain ⟨A8, cap8, rfl⟩ := row_sl n8
      clear n8 g8 HX HRW HB3 HV HR hcv
      go_wp2
      go_roundw
      case rel => exact ⟨k + 1, A8, cap8, rfl, by go_num, by omega, o8, HO8⟩
      case measure => simp [intOf]; omega
    · obtain rfl : k = N := by omega
      have i1 : ¬ (k : Int) < (k : Int) := by omega
      have hLs := HR.out.lsts
      have C := all_any wr (.slice A k cap) (lsN k) hLs (by rw [lsN_len]; omega) (by rw [lsN_flat]; simp; omega) (lsN_each k) m ew3 (by omega)
      clear hLs
      go_wp2_with fail
      refine C.mono ?_
      clear C
      rintro e w3 ⟨u, out, p, rfl, hall, hit, hle, o3⟩
      have hout := (hall.res (by omega) (lsN_each k)).uniq (IsRes.self (lsN_strict k (by omega)))
      have hol : out.length = k := by rw [hout, lsN_flat]; simp
      have hcnt := hall.cnt
      rw [lsN_len] at hcnt
      obtain ⟨A1, c1, e1, -⟩ := hit.form
      rw [hol] at e1
      subst e1
      have HC := Lib.hid hcnt
      clear hall hit hle hout hol hcnt HR
      go_wp2_with fail
      go_loopw [11, 12] (fun wv kv wr' => ∃ q x : Nat, wv = .int .i64 q ∧ kv = .int .i64 x ∧ q + x ≤ k ∧ w3 = wr' ∧ Hid (∀ r, Cnt m x r → Cnt m k (q + r))) (fun _ kv _ => (intOf kv).toNat)
      case atStart => exact ⟨0, k, rfl, rfl, by omega, rfl, Lib.hid fun r hr => by rw [Nat.zero_add]; exact hr⟩
      case round =>
        obtain ⟨q, x, rfl, rfl, hqx, rfl, HQ⟩ := hrel
        by_cases h1 : 1 < x
        · obtain ⟨y, hy⟩ : ∃ y, many x m = y := ⟨_, rfl⟩
          have hy1 : (((x : Int) + (m : Int)) - 1).tdiv (m : Int) = (y : Int) := by
            rw [Int.tdiv_eq_ediv_of_nonneg (by omega), ← hy]
            unfold many
            rw [Int.natCast_ediv]
            congr 1
            omega
          have hyl : y + 1 ≤ x := by
            have := many_half (n := x) ew3
            omega
          have hm0 : ¬ (m : Int) = 0 := by omega
          have hx1 : (1 : Int) < (x : Int) := by omega
          have HQ2 : Hid (∀ r, Cnt m y r → Cnt m k (q + 1 + r)) := Lib.hid fun r hr => by
            rw [show q + 1 + r = q + (r + 1) by omega]
            exact HQ.out _ (Cnt.step x r (by omega) (by rw [hy]; exact hr))
          clear hy HQ
          go_wp2_with fail
          go_round
          case rel => exact ⟨q + 1, y, by go_num, by go_num, by omega, by trivial, HQ2⟩
          case measure => simp [intOf]; omega
        · have hqp : p = q := HC.out.uniq (by have := HQ.out 0 (.stop x (by omega)); simpa using this)
          subst hqp
          have hx1 : ¬ (1 : Int) < (x : Int) := by omega
          clear HC HQ
          go_wp2_with fail
          refine (shown_any _).mono ?_
          rintro e w4 ⟨rfl, o4⟩
          go_wp2
          go_ret
          exact ⟨rfl, (o1.tr o3).tr o4⟩

set_option maxRecDepth 100000 in
theorem mergeMany_lifted (os : Os) (started : os.Started) (H : Type) (enc : TypeId × Value → H) :
    ReturnsInHanded {} Try.checked os 7 .any (Rows.mergeManySpec.pre6 enc Try.prog Try.f7 Rows.mergeManyRow.domain false) (Rows.mergeManySpec.post enc Try.prog Try.f7 false true false false) := by
  refine returnsInHanded_of_change_sized (C := Try.checked) Try.own started (by kernel_rfl) Try.func7
    (ChangeSpec.witness6 (enc := enc) (C := Try.checked) false ⟨#[], #[.int .u8 0, .int .u8 0], []⟩ 8 (by kernel_rfl) (by kernel_rfl) (by kernel_rfl) (by kernel_rfl)) ?_
  intro W base args ds gs before hval0 hW hcnd hsz0 _
  have hval : ∀ (j : Nat) t v, Try.f7.params[j]? = some t → args[j]? = some v → Value.okWide Try.prog W .any base t v := hval0
  have hW' := hW
  obtain ⟨p, q, hA0, hV, rfl, hfz, hnd⟩ := hW
  have hA : DataW.TrodAll enc Try.prog W 0 (fun _ => true) true Try.f7.params.toList args.toList ds p := hA0
  have hsz : (DataW.weightsEach Try.prog (Try.f7.params.toList ++ Rows.mergeManySpec.plain.varTypes Try.prog) (ds ++ gs)).all (· ≤ reachBytes) = true := hsz0
  rw [Try.params7] at hA hval hsz
  obtain ⟨v0, v1, d0, d1, p0, p1, rfl, rfl, rfl, h0, h1⟩ := trodAll_two hA
  obtain ⟨rfl, rfl⟩ := trodVars_none hV
  have hlt : ∀ x ∈ p0 ++ (p1), x.block < W.heap.size := fun x hx => hW'.lt x (by simpa using hx)
  have k0 := h0
  have k1 := h1
  obtain ⟨a0, rfl, o0⟩ := open_u8 (hval 0 5 v0 rfl rfl) h0
  obtain ⟨a1, rfl, o1⟩ := open_u8 (hval 1 5 v1 rfl rfl) h1
  clear hA0 hval0 hsz0
  refine (law_many a0 a1 o0 o1 W).mono fun e W' ⟨he, hb⟩ => ?_
  subst he
  refine ⟨_, rfl, _, _, _, [], p0 ++ (p1), [], hW', trodAll_mk1 (shut_bool Try.underlying4 _), ?_, rfl, hb.frame _, fun h => by cases h⟩
  have r0 := Below.trod Try.laidOut (by kernel_rfl) (of_decide_eq_true (by kernel_rfl)) k0 hb (fun x hx => hlt x (by simp [hx]))
  have r1 := Below.trod Try.laidOut (by kernel_rfl) (of_decide_eq_true (by kernel_rfl)) k1 hb (fun x hx => hlt x (by simp [hx]))
  exact trodAll_mk2 r0 r1

theorem mergeMany_holds : Rows.MergeManySaid :=
  OpenClaim.holds_of_wide 7 Try.f7 rfl rfl rfl rfl rfl rfl rfl ⟨rfl, rfl, rfl, rfl, rfl⟩ rfl rfl rfl rfl rfl (by kernel_rfl) Try.func7 (by kernel_rfl)
    (of_decide_eq_true (by kernel_rfl)) (by unfold Func.isWrapper; first | (rw [if_pos (by decide +kernel)]; kernel_rfl) | (rw [if_neg (by decide +kernel)]; exact ⟨rfl, rfl⟩))
    (fun os started H enc _ => mergeMany_lifted os started H enc)
#print axioms mergeMany_holds
end Go.Proofs.Ytbccpplpfcfboaa
