/-
  VdiskKeeps: whatever comes in, the law answers true, and leaves all as it was. No conditions.
-/
import Derived.Test.YtlhfcfalkmencaaVLift
namespace Go.Proofs.Ytlhfcfalkmencaa
open Go.ChangeShapes Go.WideShapes Go.ChangeAt Go.RowKit Go.Joins Go.Deep Go.Maps

theorem crF_one (keep : Int) (b : Nat) (s a : List UInt8) (n : Nat) (hn : n ≤ a.length) : ∃ q, n ≤ q ∧ q ≤ a.length ∧ (one s b a n).map (crF keep) = one s b (a.take q) q ∧ (keep < 0 → q = n) := by
  obtain ⟨h1, h2⟩ := stay_le (keep := keep) (f := ⟨s, b, a, n⟩) hn
  refine ⟨stay keep ⟨s, b, a, n⟩, h1, h2, rfl, fun hk => ?_⟩
  unfold stay
  rw [if_neg (by omega)]
theorem crF_two (keep : Int) (b : Nat) (s a : List UInt8) : (one s b a a.length).map (crF keep) = one s b a a.length := by
  obtain ⟨q, h1, h2, h3, -⟩ := crF_one keep b s a a.length (Nat.le_refl _)
  have : q = a.length := by omega
  subst this
  rw [h3, List.take_length]

set_option maxRecDepth 10000 in
set_option maxHeartbeats 4000000 in
theorem law_keeps (texts : List (List UInt8)) (A : Option Addr) (cap sy : Nat) (keep : Int) (hsy : sy < 256) (w : World) (hS : Strs w A cap texts) :
    Calls Try.prog 3 #[.slice A texts.length cap, .int .u8 sy, .int .i64 keep] w fun e w' => e = .returned (.bool true) ∧ Old w w' := by
  by_cases hn : texts.length ≤ 30
  case neg =>
    have d1 : decide ((30 : Int) < (texts.length : Int)) = true := by simp; omega
    go_enter Try.func3, Try.ntmps3
    go_wp2_with (go_at_call 8; refine (shown_any _).mono ?_; rintro e w1 ⟨rfl, k1⟩)
    go_ret
    exact ⟨rfl, k1⟩
  have d1 : decide ((30 : Int) < (texts.length : Int)) = false := by simp; omega
  go_enter Try.func3, Try.ntmps3
  go_wp2_with fail
  refine (shown_any _).mono ?_
  rintro e w1 ⟨rfl, k1⟩
  go_wp2_with fail
  refine (new_sd 100000 (by omega) w w1 k1).mono ?_
  rintro e w2 ⟨d, m, rfl, s2⟩
  clear k1
  go_wp2_with fail
  refine (create_sd s2 [97] (by decide) rfl (by simp)).mono ?_
  rintro e w3 ⟨rfl, b, s3, -⟩
  rw [put_nil] at s3
  clear s2 d1
  go_wp2_with fail
  go_loopw [8, 9, 10] (fun al su i wr => ∃ (j : Nat) (a u : List UInt8), j ≤ texts.length ∧ i = .int .i64 j ∧ al = .string (B a) ∧ su = .string (B u) ∧ a.length ≤ 200 * j ∧ u.length ≤ a.length ∧ a.take u.length = u ∧ Sd w wr ⟨d, m, 100000, one [97] b a u.length, true, none⟩) (fun _ _ i _ => texts.length - (intOf i).toNat)
  case atStart => exact ⟨0, [], [], Nat.zero_le _, rfl, rfl, rfl, by simp, by simp, rfl, s3⟩
  case round =>
    clear s3
    obtain ⟨j, a, u, hj, rfl, rfl, rfl, hal, hul, hau, hsd⟩ := hrel
    by_cases hlt : j < texts.length
    · obtain ⟨hm1, bb, off, rfl, hcl⟩ := hS.at_ j hlt
      have HCL := Lib.hid fun (W : World) (o : Old w W) => cell_old hcl o
      clear hcl
      generalize texts[j] = t at *
      have hcl1 := HCL.out wr hsd.old
      unfold maxLen at hm1
      by_cases hl : t.length ≤ 200
      · have dl : decide ((200 : Int) < (t.length : Int)) = false := by simp; omega
        have i7 : ¬ 9223372036854775807 < a.length + t.length := by omega
        have hrI : (sy : Int) % 31 = ((sy % 31 : Nat) : Int) := by omega
        go_wp2_with fail
        refine (append_sd hsd [97] t (by decide) (fnd_one _ _ _ _) (by rw [total_one]; omega)).mono ?_
        rintro e w4 ⟨rfl, s4⟩
        rw [set_one] at s4
        simp only at s4
        clear hsd hcl1
        have hcl2 := HCL.out w4 s4.old
        generalize sy % 31 = r at *
        by_cases hq : j = r
        · have hqI : ((j : Int) == (r : Int)) = true := by simp [hq]
          subst hq
          go_wp2_with fail
          refine (sync_sd s4 [97] (by decide) (fnd_one _ _ _ _)).mono ?_
          rintro e w5 ⟨rfl, s5⟩
          rw [set_one] at s5
          simp only at s5
          clear s4 hcl2
          go_wp2
          go_roundw
          case rel => exact ⟨j + 1, a ++ t, a ++ t, by omega, by go_num, by rw [add_B], by rw [add_B], by simp; omega, Nat.le_refl _, List.take_length, s5⟩
          case measure => simp [intOf]; omega
        · have hqI : ((j : Int) == (r : Int)) = false := by simp; omega
          go_wp2
          go_roundw
          case rel => exact ⟨j + 1, a ++ t, u, by omega, by go_num, by rw [add_B], rfl, by simp; omega, by simp; omega, by rw [List.take_append_of_le_length hul]; exact hau, s4⟩
          case measure => simp [intOf]; omega
      · have dl : decide ((200 : Int) < (t.length : Int)) = true := by simp; omega
        go_wp2_with (go_at_call 8; refine (shown_any _).mono ?_; rintro e w4 ⟨rfl, k4⟩)
        go_ret
        exact ⟨rfl, hsd.old.tr k4⟩
    · obtain ⟨q, hq1, hq2, hq3, hq4⟩ := crF_one keep b [97] a u.length hul
      have hql : (a.take q).length = q := by rw [List.length_take]; omega
      go_wp2_with fail
      refine (crash_sd hsd keep).mono ?_
      rintro e w4 ⟨rfl, s4⟩
      rw [hq3] at s4
      clear hsd hq3
      go_wp2_with fail
      refine (on_sd s4).mono ?_
      rintro e w5 ⟨rfl, s5⟩
      clear s4
      go_wp2_with fail
      refine (read_sd s5 [97] (by decide) (fnd_one _ _ _ _)).mono ?_
      rintro e w6 ⟨rfl, s6, -⟩
      clear s5
      have x1 : (B a).extract 0 q = B (a.take q) := ext_take _ _
      have HU := Lib.hid (show keep < 0 → a.take q = u from fun hk => by rw [hq4 hk]; exact hau)
      clear hau hq4
      generalize hc2 : a.take q = c at *
      clear hc2
      have h1 : decide ((c.length : Int) < (u.length : Int)) = false := by simp; omega
      have h2 : decide ((a.length : Int) < (c.length : Int)) = false := by simp; omega
      have h3 : (c.length : Int) ≤ (a.length : Int) := by omega
      rw [← hql] at x1 s6 hq1 hq2
      clear hql
      go_wp2_with fail
      refine (synced_sd s6 [97] (by decide) (fnd_one _ _ _ _)).mono ?_
      rintro e w7 ⟨rfl, rfl⟩
      go_wp2_with fail
      refine (crash_sd s6 keep).mono ?_
      rintro e w8 ⟨rfl, s8⟩
      rw [crF_two] at s8
      clear s6
      go_wp2_with fail
      refine (on_sd s8).mono ?_
      rintro e w9 ⟨rfl, s9⟩
      clear s8
      go_wp2_with fail
      refine (read_sd s9 [97] (by decide) (fnd_one _ _ _ _)).mono ?_
      rintro e w10 ⟨rfl, s10, -⟩
      clear s9 h1 h2 h3 x1 hq1 hq2
      by_cases hk : 0 ≤ keep
      · have hkI : decide ((0 : Int) ≤ keep) = true := by simpa using hk
        go_wp2
        go_ret
        exact ⟨rfl, s10.old⟩
      · have hkI : decide ((0 : Int) ≤ keep) = false := by simpa using hk
        have hcu := HU.out (by omega)
        rw [hcu]
        go_wp2
        go_ret
        exact ⟨rfl, s10.old⟩

set_option maxRecDepth 100000 in
theorem vdiskKeeps_lifted (os : Os) (started : os.Started) (H : Type) (enc : TypeId × Value → H) :
    ReturnsInHanded {} Try.checked os 3 .any (Rows.vdiskKeepsSpec.pre6 enc Try.prog Try.f3 Rows.vdiskKeepsRow.domain false) (Rows.vdiskKeepsSpec.post enc Try.prog Try.f3 false true false false) := by
  refine returnsInHanded_of_change (C := Try.checked) Try.own started (by kernel_rfl) Try.func3
    (ChangeSpec.witness6 (enc := enc) (C := Try.checked) false ⟨#[], #[.slice none 0 0, .int .u8 0, .int .i64 0], []⟩ 8 (by kernel_rfl) (by kernel_rfl) (by kernel_rfl) (by kernel_rfl)) ?_
  intro W base args ds gs before hval0 hW hcnd _
  have hval : ∀ (j : Nat) t v, Try.f3.params[j]? = some t → args[j]? = some v → Value.okWide Try.prog W .any base t v := hval0
  have hW' := hW
  obtain ⟨p, q, hA0, hV, rfl, hfz, hnd⟩ := hW
  have hA : DataW.TrodAll enc Try.prog W 0 (fun _ => true) true Try.f3.params.toList args.toList ds p := hA0
  rw [Try.params3] at hA hval
  obtain ⟨v0, v1, v2, d0, d1, d2, p0, p1, p2, rfl, rfl, rfl, h0, h1, h2⟩ := trodAll_three hA
  obtain ⟨rfl, rfl⟩ := trodVars_none hV
  have hlt : ∀ x ∈ p0 ++ (p1 ++ (p2)), x.block < W.heap.size := fun x hx => hW'.lt x (by simpa using hx)
  have k0 := h0
  have k1 := h1
  have k2 := h2
  obtain ⟨a0, A0, c0, rfl, o0, m0⟩ := open_strs (hval 0 22 v0 rfl rfl) h0 (fun x hx => hlt x (by simp [hx]))
  obtain ⟨a1, rfl, o1⟩ := open_u8 (hval 1 5 v1 rfl rfl) h1
  obtain ⟨a2, rfl⟩ := open_i64 (hval 2 3 v2 rfl rfl) h2
  clear hA0 hval0
  refine (law_keeps a0 A0 c0 a1 a2 o1 W o0).mono fun e W' ⟨he, hb⟩ => ?_
  subst he
  refine ⟨_, rfl, _, _, _, [], p0 ++ (p1 ++ (p2)), [], hW', trodAll_mk1 (shut_bool Try.underlying4 _), ?_, rfl, hb.frame _, fun h => by cases h⟩
  have r0 := Below.trod Try.laidOut (by kernel_rfl) (of_decide_eq_true (by kernel_rfl)) k0 hb (fun x hx => hlt x (by simp [hx]))
  have r1 := Below.trod Try.laidOut (by kernel_rfl) (of_decide_eq_true (by kernel_rfl)) k1 hb (fun x hx => hlt x (by simp [hx]))
  have r2 := Below.trod Try.laidOut (by kernel_rfl) (of_decide_eq_true (by kernel_rfl)) k2 hb (fun x hx => hlt x (by simp [hx]))
  exact trodAll_mk3 r0 r1 r2

theorem vdiskKeeps_holds : Rows.VdiskKeepsSaid :=
  OpenClaim.holds_of_wide 3 Try.f3 rfl rfl rfl rfl rfl rfl rfl ⟨rfl, rfl, rfl, rfl, rfl⟩ rfl rfl rfl rfl rfl (by kernel_rfl) Try.func3 (by kernel_rfl)
    (of_decide_eq_true (by kernel_rfl)) (by unfold Func.isWrapper; first | (rw [if_pos (by decide +kernel)]; kernel_rfl) | (rw [if_neg (by decide +kernel)]; exact ⟨rfl, rfl⟩))
    (fun os started H enc _ => vdiskKeeps_lifted os started H enc)
#print axioms vdiskKeeps_holds
end Go.Proofs.Ytlhfcfalkmencaa
