/-
  CutSplits: whatever list of cells, borders and row come in, the law answers true, and leaves all as it was. No conditions.
-/
import Derived.Test.YtohokmfbcehkgaaCLft
namespace Go.Proofs.Ytohokmfbcehkgaa
open Go.ChangeShapes Go.WideShapes Go.ChangeAt Go.RowKit Go.Joins Go.Deep

theorem splitV_le (l : List Cel) (bs : List (List UInt8)) : (splitV l bs).length ≤ bs.length + 1 ∧ ∀ L ∈ splitV l bs, L.length ≤ l.length := by
  unfold splitV
  split
  · simp
  · split
    · simp
    · refine ⟨by rw [splitL_len]; omega, fun L hL => ?_⟩
      unfold splitL at hL
      obtain ⟨i, -, rfl⟩ := List.mem_map.1 hL
      exact List.length_filter_le _ _

set_option maxRecDepth 100000 in
set_option maxHeartbeats 8000000 in
theorem law_splits (v : Value) (l : List Cel) (A2 : Option Addr) (cap2 : Nat) (bs : List (List UInt8)) (r : List UInt8) (w : World) (h : Cels w v l) (hml : l.length ≤ maxLen) (hS : Strs w A2 cap2 bs) (hcap : cap2 ≤ maxLen) (hr : r.length ≤ maxLen) :
    Calls Try.prog 3 #[v, .slice A2 bs.length cap2, .string (B r)] w fun e w' => e = .returned (.bool true) ∧ Old w w' := by
  have CB := Lib.hid (bounded_any w v l h hml A2 cap2 bs hS hcap)
  obtain ⟨A0, cap0, rfl, hc0⟩ := h.form
  have hr' : r.length ≤ 9223372036854775807 := by unfold maxLen at hr; omega
  have HI := Lib.hid h
  have HS := Lib.hid hS
  clear h hS hml hcap
  go_enter Try.func3, Try.ntmps3
  go_wp2_with fail
  refine CB.out.mono ?_
  rintro e w1' ⟨rfl, hw1⟩
  have hw1' := hw1.symm
  subst hw1'
  clear hw1 CB
  cases hbd : boundedB l bs with
  | false =>
    go_wp2_with fail
    refine (shown_any _).mono ?_
    rintro e w2 ⟨rfl, o2⟩
    go_wp2
    go_ret
    exact ⟨rfl, o2⟩
  | true =>
    obtain ⟨hl2, hbs⟩ := bounded_len hbd
    clear hbd
    by_cases hr1 : r.length ≤ 100
    · go_wp2_with fail
      refine (shown_any _).mono ?_
      rintro e w2 ⟨rfl, o2⟩
      have C1 := split_any w2 _ l (HI.out.old o2) (by omega) A2 cap2 bs (HS.out.old o2) (by omega)
      go_wp2_with fail
      refine C1.mono ?_
      clear C1
      rintro e w3 ⟨u1, us1, rfl, h1, o3⟩
      have o3' := o2.tr o3
      have C2 := rsplit_any w3 _ l (HI.out.old o3') (by omega) A2 cap2 bs (HS.out.old o3') (by omega)
      obtain ⟨B1, k1, rfl, -⟩ := h1.form
      have H1 := Lib.hid h1
      clear h1
      go_wp2_with fail
      refine C2.mono ?_
      clear C2
      rintro e w4 ⟨u2, us2, rfl, h2, o4⟩
      have o4' := o3'.tr o4
      have hle := splitV_le l bs
      have C3 := sameL_any w4 _ u2 us1 us2 _ _ (splitV l bs) (H1.out.old o4) h2 (by omega) (fun L hL => by have := hle.2 L hL; omega)
      obtain ⟨B2, k2, rfl, -⟩ := h2.form
      clear h2 H1 hle
      go_wp2_with fail
      refine C3.mono ?_
      clear C3
      rintro e w5 ⟨rfl, o5⟩
      have o5' := o4'.tr o5
      have C4 := borders_any w5 A2 cap2 bs (HS.out.old o5') (by omega)
      go_wp2_with fail
      refine C4.mono ?_
      clear C4
      rintro e w6 ⟨rfl, o6⟩
      have o6' := o5'.tr o6
      have C5 := rborders_any w6 A2 cap2 bs (HS.out.old o6') (by omega)
      go_wp2_with fail
      refine C5.mono ?_
      clear C5
      rintro e w7 ⟨rfl, o7⟩
      have o7' := o6'.tr o7
      have C6 := place_any w7 A2 cap2 bs r (by omega) (HS.out.old o7')
      go_wp2_with fail
      refine C6.mono ?_
      clear C6
      rintro e w8 ⟨rfl, o8⟩
      have o8' := o7'.tr o8
      have C7 := rplace_any w8 A2 cap2 bs r (HS.out.old o8') (by omega)
      go_wp2_with fail
      refine C7.mono ?_
      clear C7
      rintro e w9 ⟨rfl, hw9⟩
      have hw9' := hw9.symm
      subst hw9'
      clear hw9
      go_wp2
      go_ret
      exact ⟨rfl, o8'⟩
    · go_wp2_with fail
      refine (shown_any _).mono ?_
      rintro e w2 ⟨rfl, o2⟩
      go_wp2
      go_ret
      exact ⟨rfl, o2⟩

set_option maxRecDepth 100000 in
theorem cutSplits_lifted (os : Os) (started : os.Started) (H : Type) (enc : TypeId × Value → H) :
    ReturnsInHanded {} Try.checked os 3 .any (Rows.cutSplitsSpec.pre6 enc Try.prog Try.f3 Rows.cutSplitsRow.domain false) (Rows.cutSplitsSpec.post enc Try.prog Try.f3 false true false false) := by
  refine returnsInHanded_of_change_sized (C := Try.checked) Try.own started (by kernel_rfl) Try.func3
    (ChangeSpec.witness6 (enc := enc) (C := Try.checked) false ⟨#[], #[.slice none 0 0, .slice none 0 0, .string ByteArray.empty], []⟩ 8 (by kernel_rfl) (by kernel_rfl) (by kernel_rfl) (by kernel_rfl)) ?_
  intro W base args ds gs before hval0 hW hcnd hsz0 _
  have hval : ∀ (j : Nat) t v, Try.f3.params[j]? = some t → args[j]? = some v → Value.okWide Try.prog W .any base t v := hval0
  have hW' := hW
  obtain ⟨p, q, hA0, hV, rfl, hfz, hnd⟩ := hW
  have hA : DataW.TrodAll enc Try.prog W 0 (fun _ => true) true Try.f3.params.toList args.toList ds p := hA0
  have hsz : (DataW.weightsEach Try.prog (Try.f3.params.toList ++ Rows.cutSplitsSpec.plain.varTypes Try.prog) (ds ++ gs)).all (· ≤ reachBytes) = true := hsz0
  rw [Try.params3] at hA hval hsz
  obtain ⟨v0, v1, v2, d0, d1, d2, p0, p1, p2, rfl, rfl, rfl, h0, h1, h2⟩ := trodAll_three hA
  obtain ⟨rfl, rfl⟩ := trodVars_none hV
  have hlt : ∀ x ∈ p0 ++ (p1 ++ (p2)), x.block < W.heap.size := fun x hx => hW'.lt x (by simpa using hx)
  have k0 := h0
  have k1 := h1
  have k2 := h2
  obtain ⟨a0, o0, m0, -⟩ := open_cels (hval 0 22 v0 rfl rfl) h0
  obtain ⟨a1, A1, c1, rfl, o1, m1⟩ := open_strs (hval 1 23 v1 rfl rfl) h1 (fun x hx => hlt x (by simp [hx]))
  obtain ⟨a2, rfl, o2⟩ := open_str (hval 2 9 v2 rfl rfl) h2
  clear hA0 hval0 hsz0
  refine (law_splits v0 a0 A1 c1 a1 a2 W o0 m0 o1 m1 o2).mono fun e W' ⟨he, hb⟩ => ?_
  subst he
  refine ⟨_, rfl, _, _, _, [], p0 ++ (p1 ++ (p2)), [], hW', trodAll_mk1 (shut_bool Try.underlying4 _), ?_, rfl, hb.frame _, fun h => by cases h⟩
  have r0 := Below.trod Try.laidOut (by kernel_rfl) (of_decide_eq_true (by kernel_rfl)) k0 hb (fun x hx => hlt x (by simp [hx]))
  have r1 := Below.trod Try.laidOut (by kernel_rfl) (of_decide_eq_true (by kernel_rfl)) k1 hb (fun x hx => hlt x (by simp [hx]))
  have r2 := Below.trod Try.laidOut (by kernel_rfl) (of_decide_eq_true (by kernel_rfl)) k2 hb (fun x hx => hlt x (by simp [hx]))
  exact trodAll_mk3 r0 r1 r2

theorem cutSplits_holds : Rows.CutSplitsSaid :=
  OpenClaim.holds_of_wide 3 Try.f3 rfl rfl rfl rfl rfl rfl rfl ⟨rfl, rfl, rfl, rfl, rfl⟩ rfl rfl rfl rfl rfl (by kernel_rfl) Try.func3 (by kernel_rfl)
    (of_decide_eq_true (by kernel_rfl)) (by unfold Func.isWrapper; first | (rw [if_pos (by decide +kernel)]; kernel_rfl) | (rw [if_neg (by decide +kernel)]; exact ⟨rfl, rfl⟩))
    (fun os started H enc _ => cutSplits_lifted os started H enc)
#print axioms cutSplits_holds
end Go.Proofs.Ytohokmfbcehkgaa
