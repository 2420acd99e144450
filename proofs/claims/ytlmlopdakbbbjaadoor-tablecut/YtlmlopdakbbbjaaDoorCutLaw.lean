/-
  TableCut: whatever list of cells, number and text come in, the law answers true, and leaves all as it was. Conditions: the row's own.
-/
import Derived.Test.YtlmlopdakbbbjaaDoorTLft
import Derived.Test.YtlmlopdakbbbjaaDoorTUni
namespace Go.Proofs.YtlmlopdakbbbjaaDoor
open Go.ChangeShapes Go.WideShapes Go.ChangeAt Go.RowKit Go.Joins Go.Deep

set_option maxRecDepth 100000 in
set_option maxHeartbeats 8000000 in
theorem law_cut (v : Value) (l : List Cel) (n : Nat) (m : List UInt8) (w : World) (h : CelC w v l) (hok : ∀ c ∈ l, c.ok) (hml : l.length ≤ maxLen) (hn : n < 65536) (hmm : m.length ≤ maxLen) (ht : Tab w) :
    Calls Tryd.prog 5 #[v, .int .u16 n, .string (B m)] w fun e w' => e = .returned (.bool true) ∧ Old w w' := by
  have hm63 : m.length ≤ 9223372036854775807 := by unfold maxLen at hmm; omega
  clear hmm
  go_enter Tryd.func5, Tryd.ntmps5
  go_wp2_with fail
  refine (bounded_at v l _ h.cels hml).mono ?_
  rintro e w1 ⟨rfl, rfl⟩
  cases hbd : bdT l with
  | false =>
    go_wp2_with (go_at_call 9; refine (shown_any _ ht).mono ?_; rintro e w1 ⟨rfl, k1⟩)
    go_ret
    exact ⟨rfl, k1⟩
  | true =>
    have hl := bdT_len hbd
    clear hbd hml
    by_cases hm : m.length ≤ 100
    case neg =>
      have dm : decide ((100 : Int) < (m.length : Int)) = true := by simp; omega
      go_wp2_with (go_at_call 9; refine (shown_any _ ht).mono ?_; rintro e w1 ⟨rfl, k1⟩)
      go_ret
      exact ⟨rfl, k1⟩
    have dm : decide ((100 : Int) < (m.length : Int)) = false := by simp; omega
    clear hm63
    go_wp2_with fail
    refine (shown_any _ ht).mono ?_
    rintro e w1 ⟨rfl, k1⟩
    go_wp2_with fail
    refine (tbuild_any v l 3 _ (h.old k1) hok (by omega) (by decide) (ht.old k1)).mono ?_
    rintro e w2 ⟨rfl, k2⟩
    have o2 := k1.tr k2
    clear k1 k2
    by_cases he : errT l = 0
    case neg =>
      rw [buildTV_no 3 rfl he]
      have hne : (errT l != 0) = true := by simpa using he
      go_wp2
      go_ret
      exact ⟨rfl, o2⟩
    rw [buildTV_yes 3 he]
    have hla := (tbl_len 3 he)
    have HC := Lib.hid (fun k hk => cut_none l 3 k he hk)
    have HM := Lib.hid (fun (hx : m ≠ []) => more_none l 3 m (by decide) he hx)
    clear he
    generalize tbl l 3 = s at *
    have hs2 : s.length ≤ 300000 := by omega
    have h26 : 26 ≤ s.length := by omega
    clear hla dm
    have hkl : n % s.length < s.length := Nat.mod_lt _ (by omega)
    have hrem : ((n : Int).tmod (s.length : Int)) = ((n % s.length : Nat) : Int) := by rw [Int.tmod_eq_emod_of_nonneg (by omega)]; rfl
    have hl0 : ((s.length : Int) == 0) = false := by rw [beq_eq_false_iff_ne]; omega
    have hN := HC.out _ hkl
    generalize n % s.length = k at *
    have xt : (B s).extract 0 k = B (s.take k) := ext_take _ _
    have hks : k ≤ s.length := by omega
    go_wp2_with fail
    refine (open_any (s.take k) (by simp; omega) _ (ht.old o2)).mono ?_
    rintro e w3 ⟨k3, ⟨-, rfl⟩ | ⟨l', q', g, hO, -⟩⟩
    rotate_left
    · rw [hN] at hO; cases hO
    have hE : openE (s.take k) ≠ 0 := fun hx => by have := openO_E.1 hx; rw [hN] at this; cases this
    have hE2 : (openE (s.take k) == 0) = false := by simpa using hE
    generalize openE (s.take k) = ek at *
    have o3 := o2.tr k3
    clear k3 o2 hN hE xt hrem hl0
    have hroom : m.length + s.length ≤ 9223372036854775807 := by omega
    go_wp2_with fail
    rw [show B m ++ B s = B (m ++ s) from add_B m s]
    refine (open_any (m ++ s) (by rw [List.length_append]; omega) _ (ht.old o3)).mono ?_
    rintro e w4 ⟨k4, hX⟩
    have o4 := o3.tr k4
    by_cases hmz : m = []
    · subst hmz
      rcases hX with ⟨-, rfl⟩ | ⟨l', q', g, hO, -, rfl, -⟩
      · go_wp2
        all_goals (go_ret; exact ⟨rfl, o4⟩)
      · go_wp2
        go_ret
        exact ⟨rfl, o4⟩
    · rcases hX with ⟨hN, rfl⟩ | ⟨l', q', g, hO, -⟩
      · have hE : openE (m ++ s) ≠ 0 := fun hx => by have := openO_E.1 hx; rw [hN] at this; cases this
        have hE2 : (openE (m ++ s) != 0) = true := by simpa using hE
        generalize openE (m ++ s) = em at *
        go_wp2
        go_ret
        exact ⟨rfl, o4⟩
      · rw [HM.out hmz] at hO; cases hO

set_option maxRecDepth 100000 in
theorem tableCut_contract (H : Type) (enc : TypeId × Value → H) (W : World) (base : Nat) (args : Array Value) (ds gs : List (DataW H)) (before : List MemPlace)
    (hval0 : ∀ (j : Nat) t v, Tryd.f5.params[j]? = some t → args[j]? = some v → Value.okWide Tryd.prog W .any base t v)
    (hW : DataW.Whole enc Tryd.prog Tryd.f5.params.toList Rows.tableCutSpec.vars false W args.toList ds gs before) (hL : laidMetH Tryd.prog Rows.tableCutRow.laid W) :
    Calls Tryd.prog 5 args W fun e W' => ∃ v, e = .returned v ∧ Rows.tableCutSpec.post enc Tryd.prog Tryd.f5 false true false false W args v W' := by
  have ht : Tab W := table hL
  have hval : ∀ (j : Nat) t v, Tryd.f5.params[j]? = some t → args[j]? = some v → Value.okWide Tryd.prog W .any base t v := hval0
  have hW' := hW
  obtain ⟨p, q, hA0, hV, rfl, hfz, hnd⟩ := hW
  have hA : DataW.TrodAll enc Tryd.prog W 0 (fun _ => true) true Tryd.f5.params.toList args.toList ds p := hA0
  rw [Tryd.params5] at hA hval
  obtain ⟨v0, v1, v2, d0, d1, d2, p0, p1, p2, rfl, rfl, rfl, h0, h1, h2⟩ := trodAll_three hA
  obtain ⟨rfl, rfl⟩ := trodVars_none hV
  have hlt : ∀ x ∈ p0 ++ (p1 ++ (p2)), x.block < W.heap.size := fun x hx => hW'.lt x (by simpa using hx)
  have k0 := h0
  have k1 := h1
  have k2 := h2
  obtain ⟨a0, o0, q0, m0, x0⟩ := open_cels (hval 0 22 v0 rfl rfl) h0 (fun x hx => hlt x (by simp [hx]))
  obtain ⟨a1, rfl, o1⟩ := open_u16 (hval 1 39 v1 rfl rfl) h1
  obtain ⟨a2, rfl, o2⟩ := open_str (hval 2 9 v2 rfl rfl) h2
  clear hA0 hval0
  refine (law_cut v0 a0 a1 a2 W (o0.room x0) q0 m0 o1 o2 ht).mono fun e W' ⟨he, hb⟩ => ?_
  subst he
  refine ⟨_, rfl, _, _, _, [], p0 ++ (p1 ++ (p2)), [], hW', trodAll_mk1 (shut_bool Tryd.underlying4 _), ?_, rfl, hb.frame _, fun h => by cases h⟩
  have r0 := Below.trod Tryd.laidOut (by kernel_rfl) (of_decide_eq_true (by kernel_rfl)) k0 hb (fun x hx => hlt x (by simp [hx]))
  have r1 := Below.trod Tryd.laidOut (by kernel_rfl) (of_decide_eq_true (by kernel_rfl)) k1 hb (fun x hx => hlt x (by simp [hx]))
  have r2 := Below.trod Tryd.laidOut (by kernel_rfl) (of_decide_eq_true (by kernel_rfl)) k2 hb (fun x hx => hlt x (by simp [hx]))
  exact trodAll_mk3 r0 r1 r2

set_option maxRecDepth 100000 in
theorem tableCut_met (os : Os) : laidMet Tryd.prog Rows.tableCutRow.laid ((laidWorld os).forCall (fun _ _ => 0) ⟨#[], #[.slice none 0 0, .int .u16 0, .string ByteArray.empty], []⟩).memory :=
  laidMet_of_run' 8 (by kernel_rfl) (by kernel_rfl)
set_option maxRecDepth 100000 in
theorem tableCut_reads (os : Os) {H : Type} (enc : TypeId × Value → H) : ∃ places, DataW.whole enc Tryd.prog ((laidWorld os).forCall (fun _ _ => 0) ⟨#[], #[.slice none 0 0, .int .u16 0, .string ByteArray.empty], []⟩).memory Tryd.f5.params.toList Rows.tableCutSpec.vars false (#[.slice none 0 0, .int .u16 0, .string ByteArray.empty] : Array Value).toList 8 = some ([.nil, .lit (.int .u16 0), .lit (.string [])], [], places) :=
  ⟨[], by kernel_rfl⟩

set_option maxRecDepth 100000 in
theorem tableCut_lifted (os : Os) (started : os.Started) (H : Type) (enc : TypeId × Value → H) (F : Stop.Interp) :
    ReturnsInHanded {} Tryd.checked os 5 .any ((OpenSpec.ofChange Rows.tableCutSpec).preRow enc Tryd.prog Tryd.f5 Rows.tableCutRow.domain false Rows.tableCutRow.laid) (((OpenSpec.ofChange Rows.tableCutSpec).at F).post enc Tryd.prog Tryd.f5 false true false false) := by
  obtain ⟨places, hx⟩ := tableCut_reads os enc
  refine returnsInHanded_of_row (C := Tryd.checked) (s := OpenSpec.ofChange Rows.tableCutSpec) Tryd.own started (by kernel_rfl) Tryd.func5
    (witness_row_at (enc := enc) (C := Tryd.checked) false (laidWorld os) #[.slice none 0 0, .int .u16 0, .string ByteArray.empty] rfl (by kernel_rfl) (by kernel_rfl) (by kernel_rfl)
      (OpenSpec.preRow_of_cond 8 hx (by kernel_rfl) (fun k hk => by cases hk) (by kernel_rfl) (tableCut_met os))) ?_
  intro W base args ds gs before hval hW _ _ _ hL _ _
  exact tableCut_contract H enc W base args ds gs before hval hW hL

set_option maxRecDepth 100000 in
theorem tableCut_said : Rows.TableCutSaid :=
  OpenClaim.holds_of_cond 5 Tryd.f5 rfl rfl rfl rfl rfl rfl rfl ⟨rfl, rfl, rfl, rfl, rfl⟩ rfl rfl rfl rfl rfl (by kernel_rfl) Tryd.func5 (by kernel_rfl)
    (of_decide_eq_true (by kernel_rfl)) (by unfold Func.isWrapper; first | (rw [if_pos (by decide +kernel)]; kernel_rfl) | (rw [if_neg (by decide +kernel)]; exact ⟨rfl, rfl⟩))
    (fun os started H enc _ F => by rw [OpenClaim.pre_eq_preRow]; exact tableCut_lifted os started H enc F)

set_option maxRecDepth 100000 in
theorem tableCut_plain (f : FuncId) (fn : Func) (hf : Tryd.pinned.checked.prog.funcNamed Rows.tableCutRow.func = some f) (hfn : Tryd.pinned.checked.prog.funcs[f]? = some fn) :
    false = Tryd.pinned.checked.prog.looks [] ∧ ∀ (j : Nat) t, fn.params[j]? = some t → Tryd.pinned.checked.prog.wantsStandIn t = false := by
  obtain rfl : f = 5 := Option.some.inj ((show Tryd.prog.funcNamed Rows.tableCutRow.func = some 5 by kernel_rfl).symm.trans hf) |>.symm
  obtain rfl : fn = Tryd.f5 := (Option.some.inj (Tryd.func5.symm.trans hfn)).symm
  refine ⟨by kernel_rfl, fun j t ht => ?_⟩
  rw [Tryd.params5] at ht
  have hm := Array.mem_of_getElem? ht
  simp only [List.mem_toArray, List.mem_cons, List.not_mem_nil, or_false] at hm
  rcases hm with rfl | rfl | rfl
  all_goals first
    | exact (show Tryd.prog.wantsStandIn 22 = false by kernel_rfl)
    | exact (show Tryd.prog.wantsStandIn 39 = false by kernel_rfl)
    | exact (show Tryd.prog.wantsStandIn 9 = false by kernel_rfl)

set_option maxRecDepth 100000 in
theorem tableCut_card : Rows.TableCutCardSaid :=
  Claim7.holds_tied_plain_at .later [] _ _ _ _ tableCut_said (fun _ h => by cases h) (by kernel_rfl) (fun _ h => by cases h) tableCut_row_tie rfl ⟨rfl, rfl⟩ (by kernel_rfl) rfl tableCut_plain (by kernel_rfl)
#print axioms tableCut_card
end Go.Proofs.YtlmlopdakbbbjaaDoor
