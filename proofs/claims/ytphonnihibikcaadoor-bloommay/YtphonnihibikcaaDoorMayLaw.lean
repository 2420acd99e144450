/-
  BloomMay: whatever texts come in, the law answers true, and leaves all as it was. Condition: the table is laid as the program's text lays it.
-/
import Derived.Test.YtphonnihibikcaaDoorLift
import Derived.Test.YtphonnihibikcaaDoorRefMay
namespace Go.Proofs.YtphonnihibikcaaDoor
open Go.ChangeShapes Go.WideShapes Go.ChangeAt Go.RowKit Go.Joins Go.Deep

set_option maxHeartbeats 2000000 in
theorem law_may (f l : List UInt8) (hf : f.length ≤ maxLen) (hl : l.length ≤ maxLen) (w : World) (h : Tab w) :
    Calls Tryd.prog 4 #[.string (B f), .string (B l)] w fun e w' => e = .returned (.bool true) ∧ Old w w' := by
  have hf2 : f.length ≤ 9223372036854775807 := by unfold maxLen at hf; omega
  have hl2 : l.length ≤ 9223372036854775807 := by unfold maxLen at hl; omega
  clear hf hl
  go_enter Tryd.func4, Tryd.ntmps4
  by_cases h1 : f.length ≤ 300
  · by_cases h2 : l.length ≤ 200
    · go_wp2_with fail
      refine (shown_any _ h).mono ?_
      rintro e w1 ⟨rfl, o1⟩
      go_wp2_with fail
      refine (may_any f l (by omega) (by omega) _ (h.old o1)).mono ?_
      rintro e w2 ⟨rfl, o2⟩
      have o3 := o1.tr o2
      clear o1 o2
      go_wp2_with fail
      refine (rmay_any f l (by omega) (by omega) _).mono ?_
      rintro e w3 ⟨rfl, o4⟩
      generalize mayL f l = b at *
      go_wp2
      go_ret
      exact ⟨by simp, o3.tr o4⟩
    · go_wp2_with fail
      refine (shown_any _ h).mono ?_
      rintro e w1 ⟨rfl, o1⟩
      go_wp2
      go_ret
      exact ⟨rfl, o1⟩
  · go_wp2_with fail
    refine (shown_any _ h).mono ?_
    rintro e w1 ⟨rfl, o1⟩
    go_wp2
    go_ret
    exact ⟨rfl, o1⟩

theorem bloomMay_contract (H : Type) (enc : TypeId × Value → H) (W : World) (base : Nat) (args : Array Value) (ds gs : List (DataW H)) (before : List MemPlace)
    (hval0 : ∀ (j : Nat) t v, Tryd.f4.params[j]? = some t → args[j]? = some v → Value.okWide Tryd.prog W .any base t v)
    (hW : DataW.Whole enc Tryd.prog Tryd.f4.params.toList Rows.bloomMaySpec.vars false W args.toList ds gs before) (hL : laidMetH Tryd.prog Rows.bloomMayRow.laid W) :
    Calls Tryd.prog 4 args W fun e W' => ∃ v, e = .returned v ∧ Rows.bloomMaySpec.post enc Tryd.prog Tryd.f4 false true false false W args v W' := by
  have ht : Tab W := table hL
  have hval : ∀ (j : Nat) t v, Tryd.f4.params[j]? = some t → args[j]? = some v → Value.okWide Tryd.prog W .any base t v := hval0
  have hW' := hW
  obtain ⟨p, q, hA0, hV, rfl, hfz, hnd⟩ := hW
  have hA : DataW.TrodAll enc Tryd.prog W 0 (fun _ => true) true Tryd.f4.params.toList args.toList ds p := hA0
  rw [Tryd.params4] at hA hval
  obtain ⟨v0, v1, d0, d1, p0, p1, rfl, rfl, rfl, h0, h1⟩ := trodAll_two hA
  obtain ⟨rfl, rfl⟩ := trodVars_none hV
  have hlt : ∀ x ∈ p0 ++ (p1), x.block < W.heap.size := fun x hx => hW'.lt x (by simpa using hx)
  have k0 := h0
  have k1 := h1
  obtain ⟨a0, rfl, o0⟩ := open_str (hval 0 9 v0 rfl rfl) h0
  obtain ⟨a1, rfl, o1⟩ := open_str (hval 1 9 v1 rfl rfl) h1
  clear hA0 hval0
  refine (law_may a0 a1 o0 o1 W ht).mono fun e W' ⟨he, hb⟩ => ?_
  subst he
  refine ⟨_, rfl, _, _, _, [], p0 ++ (p1), [], hW', trodAll_mk1 (shut_bool Tryd.underlying4 _), ?_, rfl, hb.frame _, fun h => by cases h⟩
  have r0 := Below.trod Tryd.laidOut (by kernel_rfl) (of_decide_eq_true (by kernel_rfl)) k0 hb (fun x hx => hlt x (by simp [hx]))
  have r1 := Below.trod Tryd.laidOut (by kernel_rfl) (of_decide_eq_true (by kernel_rfl)) k1 hb (fun x hx => hlt x (by simp [hx]))
  exact trodAll_mk2 r0 r1

theorem bloomMay_met (os : Os) : laidMet Tryd.prog Rows.bloomMayRow.laid ((laidWorld os).forCall (fun _ _ => 0) ⟨#[], #[.string ByteArray.empty, .string ByteArray.empty], []⟩).memory :=
  laidMet_of_run' 8 (by kernel_rfl) (by kernel_rfl)
theorem bloomMay_reads (os : Os) {H : Type} (enc : TypeId × Value → H) : ∃ places, DataW.whole enc Tryd.prog ((laidWorld os).forCall (fun _ _ => 0) ⟨#[], #[.string ByteArray.empty, .string ByteArray.empty], []⟩).memory Tryd.f4.params.toList Rows.bloomMaySpec.vars false (#[.string ByteArray.empty, .string ByteArray.empty] : Array Value).toList 8 = some ([.lit (.string []), .lit (.string [])], [], places) :=
  ⟨[], by kernel_rfl⟩

set_option maxRecDepth 100000 in
theorem bloomMay_lifted (os : Os) (started : os.Started) (H : Type) (enc : TypeId × Value → H) (F : Stop.Interp) :
    ReturnsInHanded {} Tryd.checked os 4 .any ((OpenSpec.ofChange Rows.bloomMaySpec).preRow enc Tryd.prog Tryd.f4 Rows.bloomMayRow.domain false Rows.bloomMayRow.laid) (((OpenSpec.ofChange Rows.bloomMaySpec).at F).post enc Tryd.prog Tryd.f4 false true false false) := by
  obtain ⟨places, hx⟩ := bloomMay_reads os enc
  refine returnsInHanded_of_row (C := Tryd.checked) (s := OpenSpec.ofChange Rows.bloomMaySpec) Tryd.own started (by kernel_rfl) Tryd.func4
    (witness_row_at (enc := enc) (C := Tryd.checked) false (laidWorld os) #[.string ByteArray.empty, .string ByteArray.empty] rfl (by kernel_rfl) (by kernel_rfl) (by kernel_rfl)
      (OpenSpec.preRow_of_cond 8 hx (by kernel_rfl) (fun k hk => by cases hk) (by kernel_rfl) (bloomMay_met os))) ?_
  intro W base args ds gs before hval hW _ _ _ hL _ _
  exact bloomMay_contract H enc W base args ds gs before hval hW hL

theorem bloomMay_said : Rows.BloomMaySaid :=
  OpenClaim.holds_of_cond 4 Tryd.f4 rfl rfl rfl rfl rfl rfl rfl ⟨rfl, rfl, rfl, rfl, rfl⟩ rfl rfl rfl rfl rfl (by kernel_rfl) Tryd.func4 (by kernel_rfl)
    (of_decide_eq_true (by kernel_rfl)) (by unfold Func.isWrapper; first | (rw [if_pos (by decide +kernel)]; kernel_rfl) | (rw [if_neg (by decide +kernel)]; exact ⟨rfl, rfl⟩))
    (fun os started H enc _ F => by rw [OpenClaim.pre_eq_preRow]; exact bloomMay_lifted os started H enc F)

theorem bloomMay_plain (f : FuncId) (fn : Func) (hf : Tryd.pinned.checked.prog.funcNamed Rows.bloomMayRow.func = some f) (hfn : Tryd.pinned.checked.prog.funcs[f]? = some fn) :
    false = Tryd.pinned.checked.prog.looks [] ∧ ∀ (j : Nat) t, fn.params[j]? = some t → Tryd.pinned.checked.prog.wantsStandIn t = false := by
  obtain rfl : f = 4 := Option.some.inj ((show Tryd.prog.funcNamed Rows.bloomMayRow.func = some 4 by kernel_rfl).symm.trans hf) |>.symm
  obtain rfl : fn = Tryd.f4 := (Option.some.inj (Tryd.func4.symm.trans hfn)).symm
  refine ⟨by kernel_rfl, fun j t ht => ?_⟩
  rw [Tryd.params4] at ht
  have hm := Array.mem_of_getElem? ht
  simp only [List.mem_toArray, List.mem_cons, List.not_mem_nil, or_false] at hm
  rcases hm with rfl | rfl
  all_goals first
    | exact (show Tryd.prog.wantsStandIn 9 = false by kernel_rfl)

theorem bloomMay_card : Rows.BloomMayCardSaid :=
  Claim7.holds_tied_plain_at .later [] _ _ _ _ bloomMay_said (fun _ h => by cases h) (by kernel_rfl) (fun _ h => by cases h) bloomMay_row_tie rfl ⟨rfl, rfl⟩ (by kernel_rfl) rfl bloomMay_plain (by kernel_rfl)
#print axioms bloomMay_card
end Go.Proofs.YtphonnihibikcaaDoor
