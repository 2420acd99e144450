/-
  BlockOnce: whatever list of cells comes in, the law answers true, and leaves all as it was. No conditions.
-/
import Derived.Test.YtdlendmbdikflaaLift
namespace Go.Proofs.Ytdlendmbdikflaa
open Go.ChangeShapes Go.WideShapes Go.ChangeAt Go.RowKit Go.Joins Go.Deep

set_option maxRecDepth 100000 in
set_option maxHeartbeats 4000000 in
theorem law_once (v : Value) (l : List Cel) (w : World) (h : Cels w v l) (hok : ∀ c ∈ l, c.ok) (hml : l.length ≤ maxLen) :
    Calls Try.prog 5 #[v] w fun e w' => e = .returned (.bool true) ∧ Old w w' := by
  go_enter Try.func5, Try.ntmps5
  go_wp2_with fail
  refine (bounded_at v l _ h hml).mono ?_
  rintro e w1 ⟨rfl, rfl⟩
  cases hb : bdL l with
  | false =>
    go_wp2_with (go_at_call 10; refine (shown_any _).mono ?_; rintro e w1 ⟨rfl, k1⟩)
    go_ret
    exact ⟨rfl, k1⟩
  | true =>
    have hl := bdL_len hb
    go_wp2_with fail
    refine (shown_any _).mono ?_
    rintro e w1 ⟨rfl, k1⟩
    go_wp2_with fail
    refine (build_at v l _ (h.old k1) hok (by omega)).mono ?_
    rintro e w2 ⟨rfl, k2⟩
    have o2 := k1.tr k2
    clear k1 k2
    by_cases he : errB l = 0
    case neg =>
      rw [buildV_no rfl he]
      have hne : (errB l != 0) = true := by simpa using he
      go_wp2
      go_ret
      exact ⟨rfl, o2⟩
    rw [buildV_yes he]
    obtain ⟨b1, b2⟩ := blk_len l he
    have P1 := Lib.hid (parseO_less l he hok)
    have P2 := Lib.hid (parseO_more l [0] (by simp) he hok)
    generalize blk l = s at *
    have hw1 : (1 : Int) ≤ (s.length : Int) := by omega
    have hxt : (B s).extract 0 (s.length - 1) = B (s.take (s.length - 1)) := ext_take _ _
    go_wp2_with fail
    refine (parse_any (s.take (s.length - 1)) (by simp; omega) _).mono ?_
    rintro e w3 ⟨v3, rfl, -, k3⟩
    rw [show parseE (s.take (s.length - 1)) = 50 by unfold parseE; rw [P1.out]]
    have o3 := o2.tr k3
    clear k3 o2
    go_wp2_with fail
    rw [show B s ++ ⟨#[0]⟩ = B (s ++ [0]) from add_B s [0]]
    refine (parse_any (s ++ [0]) (by simp; omega) _).mono ?_
    rintro e w4 ⟨v4, rfl, -, k4⟩
    rw [show parseE (s ++ [0]) = 50 by unfold parseE; rw [P2.out]]
    have o4 := o3.tr k4
    go_wp2
    go_ret
    exact ⟨rfl, o4⟩

set_option maxRecDepth 100000 in
theorem blockOnce_lifted (os : Os) (started : os.Started) (H : Type) (enc : TypeId × Value → H) :
    ReturnsInHanded {} Try.checked os 5 .any (Rows.blockOnceSpec.pre6 enc Try.prog Try.f5 Rows.blockOnceRow.domain false) (Rows.blockOnceSpec.post enc Try.prog Try.f5 false true false false) := by
  refine returnsInHanded_of_change (C := Try.checked) Try.own started (by kernel_rfl) Try.func5
    (ChangeSpec.witness6 (enc := enc) (C := Try.checked) false ⟨#[], #[.slice none 0 0], []⟩ 8 (by kernel_rfl) (by kernel_rfl) (by kernel_rfl) (by kernel_rfl)) ?_
  intro W base args ds gs before hval0 hW hcnd _
  have hval : ∀ (j : Nat) t v, Try.f5.params[j]? = some t → args[j]? = some v → Value.okWide Try.prog W .any base t v := hval0
  have hW' := hW
  obtain ⟨p, q, hA0, hV, rfl, hfz, hnd⟩ := hW
  have hA : DataW.TrodAll enc Try.prog W 0 (fun _ => true) true Try.f5.params.toList args.toList ds p := hA0
  rw [Try.params5] at hA hval
  obtain ⟨v0, d0, rfl, rfl, h0⟩ := trodAll_one hA
  obtain ⟨rfl, rfl⟩ := trodVars_none hV
  have hlt : ∀ x ∈ p, x.block < W.heap.size := fun x hx => hW'.lt x (by simpa using hx)
  have k0 := h0
  obtain ⟨a0, o0, q0, m0, x0⟩ := open_cels (hval 0 22 v0 rfl rfl) h0 (fun x hx => hlt x (by simp [hx]))
  clear hA0 hval0
  refine (law_once v0 a0 W o0 q0 m0).mono fun e W' ⟨he, hb⟩ => ?_
  subst he
  refine ⟨_, rfl, _, _, _, [], p, [], hW', trodAll_mk1 (shut_bool Try.underlying4 _), ?_, rfl, hb.frame _, fun h => by cases h⟩
  have r0 := Below.trod Try.laidOut (by kernel_rfl) (of_decide_eq_true (by kernel_rfl)) k0 hb (fun x hx => hlt x (by simp [hx]))
  exact trodAll_mk1 r0

theorem blockOnce_holds : Rows.BlockOnceSaid :=
  OpenClaim.holds_of_wide 5 Try.f5 rfl rfl rfl rfl rfl rfl rfl ⟨rfl, rfl, rfl, rfl, rfl⟩ rfl rfl rfl rfl rfl (by kernel_rfl) Try.func5 (by kernel_rfl)
    (of_decide_eq_true (by kernel_rfl)) (by unfold Func.isWrapper; first | (rw [if_pos (by decide +kernel)]; kernel_rfl) | (rw [if_neg (by decide +kernel)]; exact ⟨rfl, rfl⟩))
    (fun os started H enc _ => blockOnce_lifted os started H enc)
#print axioms blockOnce_holds
end Go.Proofs.Ytdlendmbdikflaa
