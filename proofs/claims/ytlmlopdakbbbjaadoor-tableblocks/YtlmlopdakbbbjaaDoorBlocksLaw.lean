/-
  TableBlocks: whatever list of cells, and whatever text, come in, the law answers true, and leaves all as it was. Conditions: the row's own.
-/
import Derived.Test.YtlmlopdakbbbjaaDoorTLft
namespace Go.Proofs.YtlmlopdakbbbjaaDoor
open Go.ChangeShapes Go.WideShapes Go.ChangeAt Go.RowKit Go.Joins Go.Deep

theorem rowC_none {l : List Cel} {q : Nat} {row : List UInt8} (h : (lookP l row).length = 0) : (rowC l q row).length = 0 := by
  have : lookP l row = [] := List.eq_nil_of_length_eq_zero h
  unfold rowC
  rw [this]
  rfl
set_option maxRecDepth 100000 in
set_option maxHeartbeats 8000000 in
theorem law_blocks (v : Value) (l : List Cel) (m : List UInt8) (w : World) (h : CelC w v l) (hok : ∀ c ∈ l, c.ok) (hml : l.length ≤ maxLen) (hmm : m.length ≤ maxLen) (ht : Tab w) :
    Calls Tryd.prog 7 #[v, .string (B m)] w fun e w' => e = .returned (.bool true) ∧ Old w w' := by
  have hm63 : m.length ≤ 9223372036854775807 := by unfold maxLen at hmm; omega
  clear hmm
  go_enter Tryd.func7, Tryd.ntmps7
  go_wp2_with fail
  refine (bounded_at v l _ h.cels hml).mono ?_
  rintro e w1 ⟨rfl, rfl⟩
  cases hbd : bdT l with
  | false =>
    go_wp2_with (go_at_call 9; refine (shown_any _ ht).mono ?_; rintro e w1 ⟨rfl, k1⟩)
    go_ret
    exact ⟨rfl, k1⟩
  | true =>
    have hl := bdT_len hbd
    clear hbd hml
    by_cases hm : m.length ≤ 100
    case neg =>
      have dm : decide ((100 : Int) < (m.length : Int)) = true := by simp; omega
      go_wp2_with (go_at_call 9; refine (shown_any _ ht).mono ?_; rintro e w1 ⟨rfl, k1⟩)
      go_ret
      exact ⟨rfl, k1⟩
    have dm : decide ((100 : Int) < (m.length : Int)) = false := by simp; omega
    clear hm63
    go_wp2_with fail
    refine (shown_any _ ht).mono ?_
    rintro e w1 ⟨rfl, k1⟩
    go_wp2_with fail
    refine (tbuild_any v l 1 _ (h.old k1) hok (by omega) (by decide) (ht.old k1)).mono ?_
    rintro e w2 ⟨rfl, k2⟩
    have o2 := k1.tr k2
    clear k1 k2
    by_cases he : errT l = 0
    case neg =>
      rw [buildTV_no 1 rfl he]
      have hne : (errT l != 0) = true := by simpa using he
      go_wp2
      go_ret
      exact ⟨rfl, o2⟩
    rw [buildTV_yes 1 he]
    have hla := (tbl_len 1 he)
    have hO := openO_tbl l 1 (by decide) he hok
    clear he
    generalize tbl l 1 = s at *
    have hs2 : s.length ≤ 300000 := by omega
    clear hla dm
    obtain ⟨A0, cap0, rfl, -⟩ := h
    go_wp2_with fail
    refine (open_any s (by omega) _ (ht.old o2)).mono ?_
    rintro e w3 ⟨k3, ⟨hN, -⟩ | ⟨l', q', g, hO2, hg, rfl, hT⟩⟩
    · rw [hO] at hN; cases hN
    rw [hO] at hO2
    injection hO2 with hO2
    injection hO2 with e1 e2
    subst e1 e2
    have o3 := o2.tr k3
    clear o2 k3 hO hg
    go_wp2_with fail
    refine (looks_any g l 1 m _ hT (by omega) (by omega) (ht.old o3)).mono ?_
    rintro e w4 ⟨rfl, k4⟩
    have o4 := o3.tr k4
    have hT4 := hT.old k4
    clear o3 k4 hT
    have hpl := parts_len l
    have hll := lookP_len l m
    have HR := Lib.hid (rowC_none (l := l) (q := 1) (row := m))
    go_wp2_with fail
    refine (blocksN_any g l 1 _ hT4 (by omega)).mono ?_
    rintro e w5 ⟨rfl, k5⟩
    have o5 := o4.tr k5
    have hT5 := hT4.old k5
    clear o4 k5 hT4
    have hq : ((l.length : Int) + 7) / 8 = ((parts l).length : Int) := by omega
    have hle : (lookP l m).length ≤ (parts l).length := hll
    have hsm : (parts l).length ≤ 100 := by omega
    clear hpl hll
    go_wp2_with fail
    refine (blocksN_any g l 1 _ hT5 (by omega)).mono ?_
    rintro e w6 ⟨rfl, k6⟩
    have o6 := o5.tr k6
    have hT6 := hT5.old k6
    clear o5 k6 hT5
    have dle : decide (((lookP l m).length : Int) ≤ ((parts l).length : Int)) = true := decide_eq_true (by omega)
    go_wp2_with fail
    refine (row_any g l 1 m _ hT6 (by omega) (by omega) (ht.old o6)).mono ?_
    rintro e w7 ⟨v7, b7, rfl, hO7, k7⟩
    have o7 := o6.tr k7
    have hT7 := hT6.old k7
    obtain ⟨A7, c7, rfl, -⟩ := hO7.room
    clear o6 k7 hT6 hO7 dle
    by_cases hz : (lookP l m).length = 0
    · have hr := HR.out hz
      have dz : decide ((0 : Int) < ((lookP l m).length : Int)) = false := decide_eq_false (by omega)
      rw [hr]
      go_wp2_with fail
      refine (row_any g l 1 m _ hT7 (by omega) (by omega) (ht.old o7)).mono ?_
      rintro e w8 ⟨v8, b8, rfl, hO8, k8⟩
      have o8 := o7.tr k8
      obtain ⟨A8, c8, rfl, -⟩ := hO8.room
      rw [hr]
      go_wp2
      go_ret
      exact ⟨rfl, o8⟩
    · have dz : decide ((0 : Int) < ((lookP l m).length : Int)) = true := decide_eq_true (by omega)
      by_cases hr : (rowC l 1 m).length = 0
      · have dr : (((rowC l 1 m).length : Int) == 0) = true := by rw [hr]; rfl
        go_wp2
        go_ret
        exact ⟨rfl, o7⟩
      · have dr : (((rowC l 1 m).length : Int) == 0) = false := by rw [beq_eq_false_iff_ne]; omega
        go_wp2
        go_ret
        exact ⟨rfl, o7⟩

set_option maxRecDepth 100000 in
theorem tableBlocks_contract (H : Type) (enc : TypeId × Value → H) (W : World) (base : Nat) (args : Array Value) (ds gs : List (DataW H)) (before : List MemPlace)
    (hval0 : ∀ (j : Nat) t v, Tryd.f7.params[j]? = some t → args[j]? = some v → Value.okWide Tryd.prog W .any base t v)
    (hW : DataW.Whole enc Tryd.prog Tryd.f7.params.toList Rows.tableBlocksSpec.vars false W args.toList ds gs before) (hL : laidMetH Tryd.prog Rows.tableBlocksRow.laid W) :
    Calls Tryd.prog 7 args W fun e W' => ∃ v, e = .returned v ∧ Rows.tableBlocksSpec.post enc Tryd.prog Tryd.f7 false true false false W args v W' := by
  have ht : Tab W := table hL
  have hval : ∀ (j : Nat) t v, Tryd.f7.params[j]? = some t → args[j]? = some v → Value.okWide Tryd.prog W .any base t v := hval0
  have hW' := hW
  obtain ⟨p, q, hA0, hV, rfl, hfz, hnd⟩ := hW
  have hA : DataW.TrodAll enc Tryd.prog W 0 (fun _ => true) true Tryd.f7.params.toList args.toList ds p := hA0
  rw [Tryd.params7] at hA hval
  obtain ⟨v0, v1, d0, d1, p0, p1, rfl, rfl, rfl, h0, h1⟩ := trodAll_two hA
  obtain ⟨rfl, rfl⟩ := trodVars_none hV
  have hlt : ∀ x ∈ p0 ++ (p1), x.block < W.heap.size := fun x hx => hW'.lt x (by simpa using hx)
  have k0 := h0
  have k1 := h1
  obtain ⟨a0, o0, q0, m0, x0⟩ := open_cels (hval 0 22 v0 rfl rfl) h0 (fun x hx => hlt x (by simp [hx]))
  obtain ⟨a1, rfl, o1⟩ := open_str (hval 1 9 v1 rfl rfl) h1
  clear hA0 hval0
  refine (law_blocks v0 a0 a1 W (o0.room x0) q0 m0 o1 ht).mono fun e W' ⟨he, hb⟩ => ?_
  subst he
  refine ⟨_, rfl, _, _, _, [], p0 ++ (p1), [], hW', trodAll_mk1 (shut_bool Tryd.underlying4 _), ?_, rfl, hb.frame _, fun h => by cases h⟩
  have r0 := Below.trod Tryd.laidOut (by kernel_rfl) (of_decide_eq_true (by kernel_rfl)) k0 hb (fun x hx => hlt x (by simp [hx]))
  have r1 := Below.trod Tryd.laidOut (by kernel_rfl) (of_decide_eq_true (by kernel_rfl)) k1 hb (fun x hx => hlt x (by simp [hx]))
  exact trodAll_mk2 r0 r1

set_option maxRecDepth 100000 in
theorem tableBlocks_met (os : Os) : laidMet Tryd.prog Rows.tableBlocksRow.laid ((laidWorld os).forCall (fun _ _ => 0) ⟨#[], #[.slice none 0 0, .string ByteArray.empty], []⟩).memory :=
  laidMet_of_run' 8 (by kernel_rfl) (by kernel_rfl)
set_option maxRecDepth 100000 in
theorem tableBlocks_reads (os : Os) {H : Type} (enc : TypeId × Value → H) : ∃ places, DataW.whole enc Tryd.prog ((laidWorld os).forCall (fun _ _ => 0) ⟨#[], #[.slice none 0 0, .string ByteArray.empty], []⟩).memory Tryd.f7.params.toList Rows.tableBlocksSpec.vars false (#[.slice none 0 0, .string ByteArray.empty] : Array Value).toList 8 = some ([.nil, .lit (.string [])], [], places) :=
  ⟨[], by kernel_rfl⟩

set_option maxRecDepth 100000 in
theorem tableBlocks_lifted (os : Os) (started : os.Started) (H : Type) (enc : TypeId × Value → H) (F : Stop.Interp) :
    ReturnsInHanded {} Tryd.checked os 7 .any ((OpenSpec.ofChange Rows.tableBlocksSpec).preRow enc Tryd.prog Tryd.f7 Rows.tableBlocksRow.domain false Rows.tableBlocksRow.laid) (((OpenSpec.ofChange Rows.tableBlocksSpec).at F).post enc Tryd.prog Tryd.f7 false true false false) := by
  obtain ⟨places, hx⟩ := tableBlocks_reads os enc
  refine returnsInHanded_of_row (C := Tryd.checked) (s := OpenSpec.ofChange Rows.tableBlocksSpec) Tryd.own started (by kernel_rfl) Tryd.func7
    (witness_row_at (enc := enc) (C := Tryd.checked) false (laidWorld os) #[.slice none 0 0, .string ByteArray.empty] rfl (by kernel_rfl) (by kernel_rfl) (by kernel_rfl)
      (OpenSpec.preRow_of_cond 8 hx (by kernel_rfl) (fun k hk => by cases hk) (by kernel_rfl) (tableBlocks_met os))) ?_
  intro W base args ds gs before hval hW _ _ _ hL _ _
  exact tableBlocks_contract H enc W base args ds gs before hval hW hL

set_option maxRecDepth 100000 in
theorem tableBlocks_said : Rows.TableBlocksSaid :=
  OpenClaim.holds_of_cond 7 Tryd.f7 rfl rfl rfl rfl rfl rfl rfl ⟨rfl, rfl, rfl, rfl, rfl⟩ rfl rfl rfl rfl rfl (by kernel_rfl) Tryd.func7 (by kernel_rfl)
    (of_decide_eq_true (by kernel_rfl)) (by unfold Func.isWrapper; first | (rw [if_pos (by decide +kernel)]; kernel_rfl) | (rw [if_neg (by decide +kernel)]; exact ⟨rfl, rfl⟩))
    (fun os started H enc _ F => by rw [OpenClaim.pre_eq_preRow]; exact tableBlocks_lifted os started H enc F)

set_option maxRecDepth 100000 in
theorem tableBlocks_plain (f : FuncId) (fn : Func) (hf : Tryd.pinned.checked.prog.funcNamed Rows.tableBlocksRow.func = some f) (hfn : Tryd.pinned.checked.prog.funcs[f]? = some fn) :
    false = Tryd.pinned.checked.prog.looks [] ∧ ∀ (j : Nat) t, fn.params[j]? = some t → Tryd.pinned.checked.prog.wantsStandIn t = false := by
  obtain rfl : f = 7 := Option.some.inj ((show Tryd.prog.funcNamed Rows.tableBlocksRow.func = some 7 by kernel_rfl).symm.trans hf) |>.symm
  obtain rfl : fn = Tryd.f7 := (Option.some.inj (Tryd.func7.symm.trans hfn)).symm
  refine ⟨by kernel_rfl, fun j t ht => ?_⟩
  rw [Tryd.params7] at ht
  have hm := Array.mem_of_getElem? ht
  simp only [List.mem_toArray, List.mem_cons, List.not_mem_nil, or_false] at hm
  rcases hm with rfl | rfl
  all_goals first
    | exact (show Tryd.prog.wantsStandIn 22 = false by kernel_rfl)
    | exact (show Tryd.prog.wantsStandIn 9 = false by kernel_rfl)

set_option maxRecDepth 100000 in
theorem tableBlocks_card : Rows.TableBlocksCardSaid :=
  Claim7.holds_tied_plain_at .later [] _ _ _ _ tableBlocks_said (fun _ h => by cases h) (by kernel_rfl) (fun _ h => by cases h) tableBlocks_row_tie rfl ⟨rfl, rfl⟩ (by kernel_rfl) rfl tableBlocks_plain (by kernel_rfl)
#print axioms tableBlocks_card
end Go.Proofs.YtlmlopdakbbbjaaDoor
