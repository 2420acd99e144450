/-
  CutRolls: whatever list of cells and size come in, the law answers true, and leaves all as it was. No conditions.
-/
import Derived.Test.YtohokmfbcehkgaaCLft
namespace Go.Proofs.Ytohokmfbcehkgaa
open Go.ChangeShapes Go.WideShapes Go.ChangeAt Go.RowKit Go.Joins Go.Deep

theorem rollV_le (l : List Cel) (most : Int) : (rollV l most).length ≤ l.length ∧ ∀ L ∈ rollV l most, L.length ≤ l.length := by
  unfold rollV
  split
  · simp
  · split
    · simp
    · refine ⟨rollL_len most l, fun L hL => ?_⟩
      have := mem_len hL
      rwa [rollL_flat] at this

set_option maxRecDepth 100000 in
set_option maxHeartbeats 8000000 in
theorem law_rolls (v : Value) (l : List Cel) (most : Int) (w : World) (h : Cels w v l) (hml : l.length ≤ maxLen) (hmost : most ≤ 9223372036854775807) :
    Calls Try.prog 4 #[v, .int .i64 most] w fun e w' => e = .returned (.bool true) ∧ Old w w' := by
  have CB := Lib.hid (bounded_any w v l h hml none 0 [] (Strs.none w) (by simp))
  obtain ⟨A0, cap0, rfl, hc0⟩ := h.form
  have HI := Lib.hid h
  clear h hml
  go_enter Try.func4, Try.ntmps4
  go_wp2_with fail
  refine CB.out.mono ?_
  rintro e w1' ⟨rfl, hw1⟩
  have hw1' := hw1.symm
  subst hw1'
  clear hw1 CB
  cases hbd : boundedB l [] with
  | false =>
    go_wp2_with fail
    refine (shown_any _).mono ?_
    rintro e w2 ⟨rfl, o2⟩
    go_wp2
    go_ret
    exact ⟨rfl, o2⟩
  | true =>
    obtain ⟨hl2, hbs⟩ := bounded_len hbd
    clear hbd hbs
    go_wp2_with fail
    refine (shown_any _).mono ?_
    rintro e w2 ⟨rfl, o2⟩
    have C1 := roll_any w2 _ l (HI.out.old o2) (by omega) most hmost
    go_wp2_with fail
    refine C1.mono ?_
    clear C1
    rintro e w3 ⟨u1, us1, rfl, h1, o3⟩
    have o3' := o2.tr o3
    have C2 := rroll_any w3 _ l (HI.out.old o3') (by omega) most hmost
    obtain ⟨B1, k1, rfl, -⟩ := h1.form
    have H1 := Lib.hid h1
    clear h1
    go_wp2_with fail
    refine C2.mono ?_
    clear C2
    rintro e w4 ⟨u2, us2, rfl, h2, o4⟩
    have o4' := o3'.tr o4
    have hle := rollV_le l most
    have C3 := sameL_any w4 _ u2 us1 us2 _ _ (rollV l most) (H1.out.old o4) h2 (by omega) (fun L hL => by have := hle.2 L hL; omega)
    obtain ⟨B2, k2, rfl, -⟩ := h2.form
    clear h2 H1 hle
    go_wp2_with fail
    refine C3.mono ?_
    clear C3
    rintro e w5 ⟨rfl, o5⟩
    have o5' := o4'.tr o5
    go_wp2
    go_ret
    exact ⟨rfl, o5'⟩

set_option maxRecDepth 100000 in
theorem cutRolls_lifted (os : Os) (started : os.Started) (H : Type) (enc : TypeId × Value → H) :
    ReturnsInHanded {} Try.checked os 4 .any (Rows.cutRollsSpec.pre6 enc Try.prog Try.f4 Rows.cutRollsRow.domain false) (Rows.cutRollsSpec.post enc Try.prog Try.f4 false true false false) := by
  refine returnsInHanded_of_change_sized (C := Try.checked) Try.own started (by kernel_rfl) Try.func4
    (ChangeSpec.witness6 (enc := enc) (C := Try.checked) false ⟨#[], #[.slice none 0 0, .int .i64 0], []⟩ 8 (by kernel_rfl) (by kernel_rfl) (by kernel_rfl) (by kernel_rfl)) ?_
  intro W base args ds gs before hval0 hW hcnd hsz0 _
  have hval : ∀ (j : Nat) t v, Try.f4.params[j]? = some t → args[j]? = some v → Value.okWide Try.prog W .any base t v := hval0
  have hW' := hW
  obtain ⟨p, q, hA0, hV, rfl, hfz, hnd⟩ := hW
  have hA : DataW.TrodAll enc Try.prog W 0 (fun _ => true) true Try.f4.params.toList args.toList ds p := hA0
  have hsz : (DataW.weightsEach Try.prog (Try.f4.params.toList ++ Rows.cutRollsSpec.plain.varTypes Try.prog) (ds ++ gs)).all (· ≤ reachBytes) = true := hsz0
  rw [Try.params4] at hA hval hsz
  obtain ⟨v0, v1, d0, d1, p0, p1, rfl, rfl, rfl, h0, h1⟩ := trodAll_two hA
  obtain ⟨rfl, rfl⟩ := trodVars_none hV
  have hlt : ∀ x ∈ p0 ++ (p1), x.block < W.heap.size := fun x hx => hW'.lt x (by simpa using hx)
  have k0 := h0
  have k1 := h1
  obtain ⟨a0, o0, m0, -⟩ := open_cels (hval 0 22 v0 rfl rfl) h0
  obtain ⟨a1, rfl, o1⟩ := open_i64 (hval 1 3 v1 rfl rfl) h1
  clear hA0 hval0 hsz0
  refine (law_rolls v0 a0 a1 W o0 m0 o1).mono fun e W' ⟨he, hb⟩ => ?_
  subst he
  refine ⟨_, rfl, _, _, _, [], p0 ++ (p1), [], hW', trodAll_mk1 (shut_bool Try.underlying4 _), ?_, rfl, hb.frame _, fun h => by cases h⟩
  have r0 := Below.trod Try.laidOut (by kernel_rfl) (of_decide_eq_true (by kernel_rfl)) k0 hb (fun x hx => hlt x (by simp [hx]))
  have r1 := Below.trod Try.laidOut (by kernel_rfl) (of_decide_eq_true (by kernel_rfl)) k1 hb (fun x hx => hlt x (by simp [hx]))
  exact trodAll_mk2 r0 r1

theorem cutRolls_holds : Rows.CutRollsSaid :=
  OpenClaim.holds_of_wide 4 Try.f4 rfl rfl rfl rfl rfl rfl rfl ⟨rfl, rfl, rfl, rfl, rfl⟩ rfl rfl rfl rfl rfl (by kernel_rfl) Try.func4 (by kernel_rfl)
    (of_decide_eq_true (by kernel_rfl)) (by unfold Func.isWrapper; first | (rw [if_pos (by decide +kernel)]; kernel_rfl) | (rw [if_neg (by decide +kernel)]; exact ⟨rfl, rfl⟩))
    (fun os started H enc _ => cutRolls_lifted os started H enc)
#print axioms cutRolls_holds
end Go.Proofs.Ytohokmfbcehkgaa
