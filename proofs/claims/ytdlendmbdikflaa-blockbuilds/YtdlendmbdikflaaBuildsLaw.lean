/-
  BlockBuilds: whatever list of cells, and whatever two texts, come in, the law answers true, and leaves all as it was. No conditions.
-/
import Derived.Test.YtdlendmbdikflaaLift
import Derived.Test.YtdlendmbdikflaaRSame
namespace Go.Proofs.Ytdlendmbdikflaa
open Go.ChangeShapes Go.WideShapes Go.ChangeAt Go.RowKit Go.Joins Go.Deep

set_option maxRecDepth 100000 in
set_option maxHeartbeats 4000000 in
theorem law_builds (v : Value) (l : List Cel) (a b : List UInt8) (w : World) (h : Cels w v l) (hok : ∀ c ∈ l, c.ok) (hml : l.length ≤ maxLen) :
    Calls Try.prog 3 #[v, .string (B a), .string (B b)] w fun e w' => e = .returned (.bool true) ∧ Old w w' := by
  go_enter Try.func3, Try.ntmps3
  go_wp2_with fail
  refine (bounded_at v l _ h hml).mono ?_
  rintro e w1 ⟨rfl, rfl⟩
  cases hb : bdL l with
  | false =>
    go_wp2_with (go_at_call 10; refine (shown_any _).mono ?_; rintro e w1 ⟨rfl, k1⟩)
    go_ret
    exact ⟨rfl, k1⟩
  | true =>
    have hl := bdL_len hb
    by_cases g1 : a.length ≤ 200
    case neg =>
      have d1 : decide ((200 : Int) < (a.length : Int)) = true := by simp; omega
      go_wp2_with (go_at_call 10; refine (shown_any _).mono ?_; rintro e w1 ⟨rfl, k1⟩)
      go_ret
      exact ⟨rfl, k1⟩
    have d1 : decide ((200 : Int) < (a.length : Int)) = false := by simp; omega
    by_cases g2 : b.length ≤ 200
    case neg =>
      have d2 : decide ((200 : Int) < (b.length : Int)) = true := by simp; omega
      go_wp2_with (go_at_call 10; refine (shown_any _).mono ?_; rintro e w1 ⟨rfl, k1⟩)
      go_ret
      exact ⟨rfl, k1⟩
    have d2 : decide ((200 : Int) < (b.length : Int)) = false := by simp; omega
    go_wp2_with fail
    refine (shown_any _).mono ?_
    rintro e w1 ⟨rfl, k1⟩
    go_wp2_with fail
    refine (build_at v l _ (h.old k1) hok (by omega)).mono ?_
    rintro e w2 ⟨rfl, k2⟩
    have o2 := k1.tr k2
    have h2 := h.old o2
    clear k1 k2 h d1 d2
    by_cases he : errB l = 0
    case neg =>
      rw [buildV_no rfl he]
      have hne : (errB l != 0) = true := by simpa using he
      go_wp2_with fail
      refine (rbuild_at v l _ h2 hok (by omega)).mono ?_
      rintro e w3 ⟨rfl, k3⟩
      rw [buildV_no rfl he]
      have o3 := o2.tr k3
      go_wp2_with fail
      refine (shared_any a b _ (by omega) (by omega)).mono ?_
      rintro e w4 ⟨rfl, k4⟩
      have o4 := o3.tr k4
      go_wp2_with fail
      refine (rshared_any a b _ (by omega)).mono ?_
      rintro e w5 ⟨rfl, k5⟩
      have o5 := o4.tr k5
      go_wp2
      go_ret
      exact ⟨rfl, o5⟩
    rw [buildV_yes he]
    have hbl := (blk_len l he).1
    have P1 := Lib.hid (parseO_blk l he hok)
    have BV := Lib.hid (buildV_yes he)
    generalize blk l = s at *
    go_wp2_with fail
    refine (rbuild_at v l _ h2 hok (by omega)).mono ?_
    rintro e w3 ⟨rfl, k3⟩
    rw [BV.out]
    have o3 := o2.tr k3
    have h3 := h2.old k3
    clear o2 k3 h2
    go_wp2_with fail
    refine (shared_any a b _ (by omega) (by omega)).mono ?_
    rintro e w4 ⟨rfl, k4⟩
    have o4 := o3.tr k4
    have h4 := h3.old k4
    clear o3 k4 h3
    go_wp2_with fail
    refine (rshared_any a b _ (by omega)).mono ?_
    rintro e w5 ⟨rfl, k5⟩
    have o5 := o4.tr k5
    have h5 := h4.old k5
    clear o4 k5 h4
    go_wp2_with fail
    refine (parse_any s (by omega) _).mono ?_
    rintro e w6 ⟨v6, rfl, hP, k6⟩
    rw [show parseE s = 0 by unfold parseE; rw [P1.out]]
    rw [P1.out] at hP
    have o6 := o5.tr k6
    have h6 := h5.old k6
    clear o5 k6 h5
    go_wp2_with fail
    refine (rsame_at v6 v l _ hP h6 (by omega)).mono ?_
    rintro e w7 ⟨rfl, k7⟩
    have o7 := o6.tr k7
    go_wp2
    go_ret
    exact ⟨rfl, o7⟩

set_option maxRecDepth 100000 in
theorem blockBuilds_lifted (os : Os) (started : os.Started) (H : Type) (enc : TypeId × Value → H) :
    ReturnsInHanded {} Try.checked os 3 .any (Rows.blockBuildsSpec.pre6 enc Try.prog Try.f3 Rows.blockBuildsRow.domain false) (Rows.blockBuildsSpec.post enc Try.prog Try.f3 false true false false) := by
  refine returnsInHanded_of_change (C := Try.checked) Try.own started (by kernel_rfl) Try.func3
    (ChangeSpec.witness6 (enc := enc) (C := Try.checked) false ⟨#[], #[.slice none 0 0, .string ByteArray.empty, .string ByteArray.empty], []⟩ 8 (by kernel_rfl) (by kernel_rfl) (by kernel_rfl) (by kernel_rfl)) ?_
  intro W base args ds gs before hval0 hW hcnd _
  have hval : ∀ (j : Nat) t v, Try.f3.params[j]? = some t → args[j]? = some v → Value.okWide Try.prog W .any base t v := hval0
  have hW' := hW
  obtain ⟨p, q, hA0, hV, rfl, hfz, hnd⟩ := hW
  have hA : DataW.TrodAll enc Try.prog W 0 (fun _ => true) true Try.f3.params.toList args.toList ds p := hA0
  rw [Try.params3] at hA hval
  obtain ⟨v0, v1, v2, d0, d1, d2, p0, p1, p2, rfl, rfl, rfl, h0, h1, h2⟩ := trodAll_three hA
  obtain ⟨rfl, rfl⟩ := trodVars_none hV
  have hlt : ∀ x ∈ p0 ++ (p1 ++ (p2)), x.block < W.heap.size := fun x hx => hW'.lt x (by simpa using hx)
  have k0 := h0
  have k1 := h1
  have k2 := h2
  obtain ⟨a0, o0, q0, m0, x0⟩ := open_cels (hval 0 22 v0 rfl rfl) h0 (fun x hx => hlt x (by simp [hx]))
  obtain ⟨a1, rfl, o1⟩ := open_str (hval 1 9 v1 rfl rfl) h1
  obtain ⟨a2, rfl, o2⟩ := open_str (hval 2 9 v2 rfl rfl) h2
  clear hA0 hval0
  refine (law_builds v0 a0 a1 a2 W o0 q0 m0).mono fun e W' ⟨he, hb⟩ => ?_
  subst he
  refine ⟨_, rfl, _, _, _, [], p0 ++ (p1 ++ (p2)), [], hW', trodAll_mk1 (shut_bool Try.underlying4 _), ?_, rfl, hb.frame _, fun h => by cases h⟩
  have r0 := Below.trod Try.laidOut (by kernel_rfl) (of_decide_eq_true (by kernel_rfl)) k0 hb (fun x hx => hlt x (by simp [hx]))
  have r1 := Below.trod Try.laidOut (by kernel_rfl) (of_decide_eq_true (by kernel_rfl)) k1 hb (fun x hx => hlt x (by simp [hx]))
  have r2 := Below.trod Try.laidOut (by kernel_rfl) (of_decide_eq_true (by kernel_rfl)) k2 hb (fun x hx => hlt x (by simp [hx]))
  exact trodAll_mk3 r0 r1 r2

theorem blockBuilds_holds : Rows.BlockBuildsSaid :=
  OpenClaim.holds_of_wide 3 Try.f3 rfl rfl rfl rfl rfl rfl rfl ⟨rfl, rfl, rfl, rfl, rfl⟩ rfl rfl rfl rfl rfl (by kernel_rfl) Try.func3 (by kernel_rfl)
    (of_decide_eq_true (by kernel_rfl)) (by unfold Func.isWrapper; first | (rw [if_pos (by decide +kernel)]; kernel_rfl) | (rw [if_neg (by decide +kernel)]; exact ⟨rfl, rfl⟩))
    (fun os started H enc _ => blockBuilds_lifted os started H enc)
#print axioms blockBuilds_holds
end Go.Proofs.Ytdlendmbdikflaa
