/-
  BlockParses: whatever two texts come in, the law answers true, and leaves all as it was. No conditions.
-/
import Derived.Test.YtdlendmbdikflaaRSek
import Derived.Test.YtdlendmbdikflaaLift
namespace Go.Proofs.Ytdlendmbdikflaa
open Go.ChangeShapes Go.WideShapes Go.ChangeAt Go.RowKit Go.Joins Go.Deep

theorem parseL_len {s : List UInt8} : ((parseO s).getD []).length ≤ 255 := by
  cases hp : parseO s with
  | none => simp
  | some l => exact (errB_zero.1 (parseO_some hp).1).1
theorem seekV_form (s q : List UInt8) : ∃ n e : Int, seekV s q = .tuple #[.int .i64 n, .int .i64 e] := by
  unfold seekV
  cases parseO s with
  | none => exact ⟨_, _, rfl⟩
  | some l => exact ⟨_, _, rfl⟩

set_option maxRecDepth 100000 in
set_option maxHeartbeats 4000000 in
theorem law_parses (s q : List UInt8) (w : World) :
    Calls Try.prog 4 #[.string (B s), .string (B q)] w fun e w' => e = .returned (.bool true) ∧ Old w w' := by
  go_enter Try.func4, Try.ntmps4
  by_cases h1 : s.length ≤ 3000
  case neg =>
    have d1 : decide ((3000 : Int) < (s.length : Int)) = true := by simp; omega
    go_wp2_with (go_at_call 10; refine (shown_any _).mono ?_; rintro e w1 ⟨rfl, k1⟩)
    go_ret
    exact ⟨rfl, k1⟩
  have d1 : decide ((3000 : Int) < (s.length : Int)) = false := by simp; omega
  by_cases h2 : q.length ≤ 300
  case neg =>
    have d2 : decide ((300 : Int) < (q.length : Int)) = true := by simp; omega
    go_wp2_with (go_at_call 10; refine (shown_any _).mono ?_; rintro e w1 ⟨rfl, k1⟩)
    go_ret
    exact ⟨rfl, k1⟩
  have d2 : decide ((300 : Int) < (q.length : Int)) = false := by simp; omega
  go_wp2_with fail
  refine (shown_any _).mono ?_
  rintro e w1 ⟨rfl, k1⟩
  go_wp2_with fail
  refine (parse_any s (by omega) _).mono ?_
  rintro e w2 ⟨v2, rfl, c2, k2⟩
  have o2 := k1.tr k2
  clear k1 k2
  go_wp2_with fail
  refine (rparse_any s (by omega) _).mono ?_
  rintro e w3 ⟨v3, rfl, c3, k3⟩
  have o3 := o2.tr k3
  have c2' := c2.old k3
  clear c2 k3 o2
  go_wp2_with fail
  refine (seek_any s q (by omega) _).mono ?_
  rintro e w4 ⟨rfl, k4⟩
  have o4 := o3.tr k4
  have c24 := c2'.old k4
  have c34 := c3.old k4
  clear c2' c3 k4 o3
  obtain ⟨n, f, hV⟩ := seekV_form s q
  rw [hV]
  go_wp2_with fail
  refine (rseek_any s q (by omega) _).mono ?_
  rintro e w5 ⟨rfl, k5⟩
  rw [hV]
  have o5 := o4.tr k5
  have c25 := c24.old k5
  have c35 := c34.old k5
  clear c24 c34 k5 o4 hV
  have hl := parseL_len (s := s)
  generalize (parseO s).getD [] = l at *
  generalize parseE s = pe at *
  go_wp2_with fail
  refine (rsame_at v2 v3 l _ c25 c35 (by omega)).mono ?_
  rintro e w6 ⟨rfl, k6⟩
  have o6 := o5.tr k6
  go_wp2
  go_ret
  exact ⟨rfl, o6⟩

set_option maxRecDepth 100000 in
theorem blockParses_lifted (os : Os) (started : os.Started) (H : Type) (enc : TypeId × Value → H) :
    ReturnsInHanded {} Try.checked os 4 .any (Rows.blockParsesSpec.pre6 enc Try.prog Try.f4 Rows.blockParsesRow.domain false) (Rows.blockParsesSpec.post enc Try.prog Try.f4 false true false false) := by
  refine returnsInHanded_of_change (C := Try.checked) Try.own started (by kernel_rfl) Try.func4
    (ChangeSpec.witness6 (enc := enc) (C := Try.checked) false ⟨#[], #[.string ByteArray.empty, .string ByteArray.empty], []⟩ 8 (by kernel_rfl) (by kernel_rfl) (by kernel_rfl) (by kernel_rfl)) ?_
  intro W base args ds gs before hval0 hW hcnd _
  have hval : ∀ (j : Nat) t v, Try.f4.params[j]? = some t → args[j]? = some v → Value.okWide Try.prog W .any base t v := hval0
  have hW' := hW
  obtain ⟨p, q, hA0, hV, rfl, hfz, hnd⟩ := hW
  have hA : DataW.TrodAll enc Try.prog W 0 (fun _ => true) true Try.f4.params.toList args.toList ds p := hA0
  rw [Try.params4] at hA hval
  obtain ⟨v0, v1, d0, d1, p0, p1, rfl, rfl, rfl, h0, h1⟩ := trodAll_two hA
  obtain ⟨rfl, rfl⟩ := trodVars_none hV
  have hlt : ∀ x ∈ p0 ++ (p1), x.block < W.heap.size := fun x hx => hW'.lt x (by simpa using hx)
  have k0 := h0
  have k1 := h1
  obtain ⟨a0, rfl, o0⟩ := open_str (hval 0 9 v0 rfl rfl) h0
  obtain ⟨a1, rfl, o1⟩ := open_str (hval 1 9 v1 rfl rfl) h1
  clear hA0 hval0
  refine (law_parses a0 a1 W).mono fun e W' ⟨he, hb⟩ => ?_
  subst he
  refine ⟨_, rfl, _, _, _, [], p0 ++ (p1), [], hW', trodAll_mk1 (shut_bool Try.underlying4 _), ?_, rfl, hb.frame _, fun h => by cases h⟩
  have r0 := Below.trod Try.laidOut (by kernel_rfl) (of_decide_eq_true (by kernel_rfl)) k0 hb (fun x hx => hlt x (by simp [hx]))
  have r1 := Below.trod Try.laidOut (by kernel_rfl) (of_decide_eq_true (by kernel_rfl)) k1 hb (fun x hx => hlt x (by simp [hx]))
  exact trodAll_mk2 r0 r1

theorem blockParses_holds : Rows.BlockParsesSaid :=
  OpenClaim.holds_of_wide 4 Try.f4 rfl rfl rfl rfl rfl rfl rfl ⟨rfl, rfl, rfl, rfl, rfl⟩ rfl rfl rfl rfl rfl (by kernel_rfl) Try.func4 (by kernel_rfl)
    (of_decide_eq_true (by kernel_rfl)) (by unfold Func.isWrapper; first | (rw [if_pos (by decide +kernel)]; kernel_rfl) | (rw [if_neg (by decide +kernel)]; exact ⟨rfl, rfl⟩))
    (fun os started H enc _ => blockParses_lifted os started H enc)
#print axioms blockParses_holds
end Go.Proofs.Ytdlendmbdikflaa
