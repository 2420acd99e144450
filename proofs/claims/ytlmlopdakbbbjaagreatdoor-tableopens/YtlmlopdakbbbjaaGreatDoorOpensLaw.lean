/-
  TableOpens: whatever two texts come in, the law answers true, and leaves all as it was. Conditions: the row's own.
-/
import Derived.Test.YtlmlopdakbbbjaaGreatDoorTLft
import Derived.Test.YtlmlopdakbbbjaaGreatDoorPG
namespace Go.Proofs.YtlmlopdakbbbjaaGreatDoor
open Go.ChangeShapes Go.WideShapes Go.ChangeAt Go.RowKit Go.Joins Go.Deep

set_option maxRecDepth 100000 in
set_option maxHeartbeats 8000000 in
theorem law_opens (s m : List UInt8) (w : World) (hss : s.length ≤ maxLen) (hmm : m.length ≤ maxLen) (ht : Tab w) :
    Calls Tryz.prog 4 #[.string (B s), .string (B m)] w fun e w' => e = .returned (.bool true) ∧ Old w w' := by
  have hs63 : s.length ≤ 9223372036854775807 := by unfold maxLen at hss; omega
  have hm63 : m.length ≤ 9223372036854775807 := by unfold maxLen at hmm; omega
  clear hmm hss
  go_enter Tryz.func4, Tryz.ntmps4
  by_cases h1 : s.length ≤ 3000
  case neg =>
    have d1 : decide ((3000 : Int) < (s.length : Int)) = true := by simp; omega
    go_wp2_with (go_at_call 6; refine (shown_any _ ht).mono ?_; rintro e w1 ⟨rfl, k1⟩)
    go_ret
    exact ⟨rfl, k1⟩
  have d1 : decide ((3000 : Int) < (s.length : Int)) = false := by simp; omega
  by_cases hm : m.length ≤ 100
  case neg =>
    have dm : decide ((100 : Int) < (m.length : Int)) = true := by simp; omega
    go_wp2_with (go_at_call 6; refine (shown_any _ ht).mono ?_; rintro e w1 ⟨rfl, k1⟩)
    go_ret
    exact ⟨rfl, k1⟩
  have dm : decide ((100 : Int) < (m.length : Int)) = false := by simp; omega
  clear hs63 hm63
  go_wp2_with fail
  refine (shown_any _ ht).mono ?_
  rintro e w1 ⟨rfl, k1⟩
  go_wp2_with fail
  refine (open_any s (by omega) _ (ht.old k1)).mono ?_
  rintro e w2 ⟨k2, hX⟩
  have o2 := k1.tr k2
  clear k1 k2 d1 dm
  rcases hX with ⟨hN, rfl⟩ | ⟨l, q, g, hO, hg, rfl, hT⟩
  · have hE : openE s ≠ 0 := fun hx => by have := openO_E.1 hx; rw [hN] at this; cases this
    have hE2 : (openE s != 0) = true := by simpa using hE
    go_wp2_with fail
    refine (ropen_any s (by omega) _).mono ?_
    rintro e w3 ⟨k3, ⟨-, rfl⟩ | ⟨l', q', v', b', hO', -⟩⟩
    rotate_left
    · rw [hN] at hO'; cases hO'
    have o3 := o2.tr k3
    generalize openE s = es at *
    go_wp2
    go_ret
    exact ⟨rfl, o3⟩
  · go_wp2_with fail
    refine (ropen_any s (by omega) _).mono ?_
    rintro e w3 ⟨k3, ⟨hN, -⟩ | ⟨l', q', v', b', hO', rfl, hOw⟩⟩
    · rw [hO] at hN; cases hN
    rw [hO] at hO'
    injection hO' with hO'
    injection hO' with e1 e2
    subst e1 e2
    have o3 := o2.tr k3
    have hT3 := hT.old k3
    obtain ⟨he, -, htb, -⟩ := openO_some hO
    obtain ⟨-, hnl, hpe, hris⟩ := errT_zero.1 he
    have hln : l.length ≤ 1000 := by
      obtain ⟨-, -, -, -, hc, -⟩ := openO_some hO
      have h1 := cellsO_len hc
      have h2 := took_all (s.take (fA s))
      have h3 : (s.take (fA s)).length ≤ s.length := by simp; omega
      omega
    have hrow : ∀ c ∈ l, c.row.length ≤ 100000 := by
      intro c hc
      have hc2 : c ∈ (parts l).flatten := by rw [parts_flat]; exact hc
      obtain ⟨p, hp, hcp⟩ := List.mem_flatten.1 hc2
      have := (mayB_parts ((errB_zero.1 (hpe p hp)).2.1 c hcp)).2.1
      omega
    have hCC := hOw.room
    obtain ⟨A3, n3, c3, rfl⟩ := hOw.form
    clear hO htb he hpe hg hT k3 o2 hOw
    go_wp2_with fail
    refine (same5_any g _ l q m _ hT3 hCC hnl hln hris (by omega) hrow (ht.old o3)).mono ?_
    rintro e w4 ⟨rfl, k4⟩
    have o4 := o3.tr k4
    go_wp2
    go_ret
    exact ⟨rfl, o4⟩

set_option maxRecDepth 100000 in
theorem tableOpens_contract (H : Type) (enc : TypeId × Value → H) (W : World) (base : Nat) (args : Array Value) (ds gs : List (DataW H)) (before : List MemPlace)
    (hval0 : ∀ (j : Nat) t v, Tryz.f4.params[j]? = some t → args[j]? = some v → Value.okWide Tryz.prog W .any base t v)
    (hW : DataW.Whole enc Tryz.prog Tryz.f4.params.toList Rows.tableOpensSpec.vars false W args.toList ds gs before) (hL : laidMetH Tryz.prog Rows.tableOpensRow.laid W) :
    Calls Tryz.prog 4 args W fun e W' => ∃ v, e = .returned v ∧ Rows.tableOpensSpec.post enc Tryz.prog Tryz.f4 false true false false W args v W' := by
  have ht : Tab W := table hL
  have hval : ∀ (j : Nat) t v, Tryz.f4.params[j]? = some t → args[j]? = some v → Value.okWide Tryz.prog W .any base t v := hval0
  have hW' := hW
  obtain ⟨p, q, hA0, hV, rfl, hfz, hnd⟩ := hW
  have hA : DataW.TrodAll enc Tryz.prog W 0 (fun _ => true) true Tryz.f4.params.toList args.toList ds p := hA0
  rw [Tryz.params4] at hA hval
  obtain ⟨v0, v1, d0, d1, p0, p1, rfl, rfl, rfl, h0, h1⟩ := trodAll_two hA
  obtain ⟨rfl, rfl⟩ := trodVars_none hV
  have hlt : ∀ x ∈ p0 ++ (p1), x.block < W.heap.size := fun x hx => hW'.lt x (by simpa using hx)
  have k0 := h0
  have k1 := h1
  obtain ⟨a0, rfl, o0⟩ := open_str (hval 0 9 v0 rfl rfl) h0
  obtain ⟨a1, rfl, o1⟩ := open_str (hval 1 9 v1 rfl rfl) h1
  clear hA0 hval0
  refine (law_opens a0 a1 W o0 o1 ht).mono fun e W' ⟨he, hb⟩ => ?_
  subst he
  refine ⟨_, rfl, _, _, _, [], p0 ++ (p1), [], hW', trodAll_mk1 (shut_bool Tryz.underlying4 _), ?_, rfl, hb.frame _, fun h => by cases h⟩
  have r0 := Below.trod Tryz.laidOut (by kernel_rfl) (of_decide_eq_true (by kernel_rfl)) k0 hb (fun x hx => hlt x (by simp [hx]))
  have r1 := Below.trod Tryz.laidOut (by kernel_rfl) (of_decide_eq_true (by kernel_rfl)) k1 hb (fun x hx => hlt x (by simp [hx]))
  exact trodAll_mk2 r0 r1

set_option maxRecDepth 100000 in
theorem tableOpens_met (os : Os) : laidMet Tryz.prog Rows.tableOpensRow.laid ((laidWorld os).forCall (fun _ _ => 0) ⟨#[], #[.string ByteArray.empty, .string ByteArray.empty], []⟩).memory :=
  laidMet_of_run' 8 (by kernel_rfl) (by kernel_rfl)
set_option maxRecDepth 100000 in
theorem tableOpens_reads (os : Os) {H : Type} (enc : TypeId × Value → H) : ∃ places, DataW.whole enc Tryz.prog ((laidWorld os).forCall (fun _ _ => 0) ⟨#[], #[.string ByteArray.empty, .string ByteArray.empty], []⟩).memory Tryz.f4.params.toList Rows.tableOpensSpec.vars false (#[.string ByteArray.empty, .string ByteArray.empty] : Array Value).toList 8 = some ([.lit (.string []), .lit (.string [])], [], places) :=
  ⟨[], by kernel_rfl⟩

set_option maxRecDepth 100000 in
theorem tableOpens_lifted (os : Os) (started : os.Started) (H : Type) (enc : TypeId × Value → H) (F : Stop.Interp) :
    ReturnsInHanded {} Tryz.checked os 4 .any ((OpenSpec.ofChange Rows.tableOpensSpec).preRow enc Tryz.prog Tryz.f4 Rows.tableOpensRow.domain false Rows.tableOpensRow.laid) (((OpenSpec.ofChange Rows.tableOpensSpec).at F).post enc Tryz.prog Tryz.f4 false true false false) := by
  obtain ⟨places, hx⟩ := tableOpens_reads os enc
  refine returnsInHanded_of_row (C := Tryz.checked) (s := OpenSpec.ofChange Rows.tableOpensSpec) Tryz.own started (by kernel_rfl) Tryz.func4
    (witness_row_at (enc := enc) (C := Tryz.checked) false (laidWorld os) #[.string ByteArray.empty, .string ByteArray.empty] rfl (by kernel_rfl) (by kernel_rfl) (by kernel_rfl)
      (OpenSpec.preRow_of_cond 8 hx (by kernel_rfl) (fun k hk => by cases hk) (by kernel_rfl) (tableOpens_met os))) ?_
  intro W base args ds gs before hval hW _ _ _ hL _ _
  exact tableOpens_contract H enc W base args ds gs before hval hW hL

set_option maxRecDepth 100000 in
theorem tableOpens_said : Rows.TableOpensSaid :=
  OpenClaim.holds_of_cond 4 Tryz.f4 rfl rfl rfl rfl rfl rfl rfl ⟨rfl, rfl, rfl, rfl, rfl⟩ rfl rfl rfl rfl rfl (by kernel_rfl) Tryz.func4 (by kernel_rfl)
    (of_decide_eq_true (by kernel_rfl)) (by unfold Func.isWrapper; first | (rw [if_pos (by decide +kernel)]; kernel_rfl) | (rw [if_neg (by decide +kernel)]; exact ⟨rfl, rfl⟩))
    (fun os started H enc _ F => by rw [OpenClaim.pre_eq_preRow]; exact tableOpens_lifted os started H enc F)

set_option maxRecDepth 100000 in
theorem tableOpens_plain (f : FuncId) (fn : Func) (hf : Tryz.pinned.checked.prog.funcNamed Rows.tableOpensRow.func = some f) (hfn : Tryz.pinned.checked.prog.funcs[f]? = some fn) :
    false = Tryz.pinned.checked.prog.looks [] ∧ ∀ (j : Nat) t, fn.params[j]? = some t → Tryz.pinned.checked.prog.wantsStandIn t = false := by
  obtain rfl : f = 4 := Option.some.inj ((show Tryz.prog.funcNamed Rows.tableOpensRow.func = some 4 by kernel_rfl).symm.trans hf) |>.symm
  obtain rfl : fn = Tryz.f4 := (Option.some.inj (Tryz.func4.symm.trans hfn)).symm
  refine ⟨by kernel_rfl, fun j t ht => ?_⟩
  rw [Tryz.params4] at ht
  have hm := Array.mem_of_getElem? ht
  simp only [List.mem_toArray, List.mem_cons, List.not_mem_nil, or_false] at hm
  rcases hm with rfl | rfl
  all_goals first
    | exact (show Tryz.prog.wantsStandIn 9 = false by kernel_rfl)

set_option maxRecDepth 100000 in
theorem tableOpens_card : Rows.TableOpensCardSaid :=
  Claim7.holds_tied_plain_at .later [] _ _ _ _ tableOpens_said (fun _ h => by cases h) (by kernel_rfl) (fun _ h => by cases h) tableOpens_row_tie rfl ⟨rfl, rfl⟩ (by kernel_rfl) rfl tableOpens_plain (by kernel_rfl)
#print axioms tableOpens_card
end Go.Proofs.YtlmlopdakbbbjaaGreatDoor
