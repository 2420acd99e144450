/-
  BlockShares: whatever three texts come in, the law answers true, and leaves all as it was. No conditions.
-/
import Derived.Test.YtdlendmbdikflaaLift
namespace Go.Proofs.Ytdlendmbdikflaa
open Go.ChangeShapes Go.WideShapes Go.ChangeAt Go.RowKit Go.Joins Go.Deep

theorem share_comm (a b : List UInt8) : share a b = share b a := by
  induction a generalizing b with
  | nil => rw [share_nil_left, share_nil_right]
  | cons x a ih =>
    cases b with
    | nil => rw [share_nil_left, share_nil_right]
    | cons y b =>
      rw [share, share, ih b]
      by_cases h : x = y
      · simp [h]
      · have h2 : ¬ y = x := fun e => h e.symm
        simp [h, h2]
theorem share_self (a : List UInt8) : share a a = a.length := by
  induction a with
  | nil => rfl
  | cons x a ih => rw [share, if_pos rfl, ih]; rfl
theorem share_app (c a b : List UInt8) : share (c ++ a) (c ++ b) = c.length + share a b := by
  induction c with
  | nil => simp
  | cons x c ih => rw [List.cons_append, List.cons_append, share, if_pos rfl, ih, List.length_cons]; omega
theorem share_ne (a b : List UInt8) (h1 : share a b < a.length) (h2 : share a b < b.length) : ¬ a[share a b] = b[share a b] := by
  induction a generalizing b with
  | nil => simp at h1
  | cons x a ih =>
    cases b with
    | nil => simp at h2
    | cons y b =>
      by_cases h : x = y
      · subst h
        have e : share (x :: a) (x :: b) = share a b + 1 := by rw [share, if_pos rfl]
        have g1 : share a b < a.length := by rw [e] at h1; simpa using h1
        have g2 : share a b < b.length := by rw [e] at h2; simpa using h2
        have := ih b g1 g2
        simp only [e, List.getElem_cons_succ]
        exact this
      · have e : share (x :: a) (y :: b) = 0 := by rw [share, if_neg h]
        simp only [e, List.getElem_cons_zero]
        exact h

set_option maxRecDepth 100000 in
set_option maxHeartbeats 4000000 in
theorem law_shares (a b c : List UInt8) (w : World) :
    Calls Try.prog 7 #[.string (B a), .string (B b), .string (B c)] w fun e w' => e = .returned (.bool true) ∧ Old w w' := by
  by_cases g1 : a.length ≤ 200
  case neg =>
    have d1 : decide ((200 : Int) < (a.length : Int)) = true := by simp; omega
    go_enter Try.func7, Try.ntmps7
    go_wp2_with (go_at_call 10; refine (shown_any _).mono ?_; rintro e w1 ⟨rfl, k1⟩)
    go_ret
    exact ⟨rfl, k1⟩
  have d1 : decide ((200 : Int) < (a.length : Int)) = false := by simp; omega
  by_cases g2 : b.length ≤ 200
  case neg =>
    have d2 : decide ((200 : Int) < (b.length : Int)) = true := by simp; omega
    go_enter Try.func7, Try.ntmps7
    go_wp2_with (go_at_call 10; refine (shown_any _).mono ?_; rintro e w1 ⟨rfl, k1⟩)
    go_ret
    exact ⟨rfl, k1⟩
  have d2 : decide ((200 : Int) < (b.length : Int)) = false := by simp; omega
  by_cases g3 : c.length ≤ 200
  case neg =>
    have d3 : decide ((200 : Int) < (c.length : Int)) = true := by simp; omega
    go_enter Try.func7, Try.ntmps7
    go_wp2_with (go_at_call 10; refine (shown_any _).mono ?_; rintro e w1 ⟨rfl, k1⟩)
    go_ret
    exact ⟨rfl, k1⟩
  have d3 : decide ((200 : Int) < (c.length : Int)) = false := by simp; omega
  obtain ⟨l1, l2⟩ := share_le a b
  have ht := share_take a b
  have hne := share_ne a b
  have hco := share_comm b a
  have hse := share_self a
  have hap := share_app c a b
  go_enter Try.func7, Try.ntmps7
  go_wp2_with fail
  refine (shown_any _).mono ?_
  rintro e w1 ⟨rfl, k1⟩
  go_wp2_with fail
  refine (shared_any a b _ (by omega) (by omega)).mono ?_
  rintro e w2 ⟨rfl, k2⟩
  have o2 := k1.tr k2
  clear k1 k2 d1 d2 d3
  have HC := Lib.hid hco
  have HS := Lib.hid hse
  have HA := Lib.hid hap
  clear hco hse hap
  generalize share a b = n at *
  have j1 : decide ((a.length : Int) < (n : Int)) = false := by simp; omega
  have j2 : decide ((b.length : Int) < (n : Int)) = false := by simp; omega
  have jn1 : decide (a.length < n) = false := by simp; omega
  have jn2 : decide (b.length < n) = false := by simp; omega
  have i1 : (n : Int) ≤ (a.length : Int) := by omega
  have i2 : (n : Int) ≤ (b.length : Int) := by omega
  have x1 : (B a).extract 0 n = B (a.take n) := ext_take _ _
  have x2 : (B b).extract 0 n = B (a.take n) := by rw [ht]; exact ext_take _ _
  clear ht
  by_cases h1 : n < a.length
  · have j3 : decide ((n : Int) < (a.length : Int)) = true := by simp; omega
    have i3 : (n : Int) < (a.length : Int) := by omega
    by_cases h2 : n < b.length
    · have j4 : decide ((n : Int) < (b.length : Int)) = true := by simp; omega
      have i4 : (n : Int) < (b.length : Int) := by omega
      have j5 := ne_byte (hne h1 h2)
      have y1 : (B a)[n]'(by simpa [ByteArray.size] using h1) = a[n] := rfl
      have y2 : (B b)[n]'(by simpa [ByteArray.size] using h2) = b[n] := rfl
      clear hne
      go_wp2_with fail
      go_quiet (fail)
      go_wp2_with fail
      refine (shared_any b a _ (by omega) (by omega)).mono ?_
      rintro e w4 ⟨rfl, k4⟩
      rw [HC.out]
      have o4 := (o2.dn nq).tr k4
      clear k4
      go_wp2_with fail
      refine (shared_any a a _ (by omega) (by omega)).mono ?_
      rintro e w5 ⟨rfl, k5⟩
      rw [HS.out]
      have o5 := o4.tr k5
      clear k5 o4
      go_wp2_with fail
      rw [add_B, add_B]
      refine (shared_any (c ++ a) (c ++ b) _ (by simp; omega) (by simp; omega)).mono ?_
      rintro e w6 ⟨rfl, k6⟩
      rw [HA.out, Int.natCast_add]
      have o6 := o5.tr k6
      go_wp2
      go_ret
      exact ⟨rfl, o6⟩
    · have j4 : decide ((n : Int) < (b.length : Int)) = false := by simp; omega
      have jn4 : decide (n < b.length) = false := by simp; omega
      clear hne
      go_wp2_with fail
      go_quiet (fail)
      go_wp2_with fail
      refine (shared_any b a _ (by omega) (by omega)).mono ?_
      rintro e w4 ⟨rfl, k4⟩
      rw [HC.out]
      have o4 := (o2.dn nq).tr k4
      clear k4
      go_wp2_with fail
      refine (shared_any a a _ (by omega) (by omega)).mono ?_
      rintro e w5 ⟨rfl, k5⟩
      rw [HS.out]
      have o5 := o4.tr k5
      clear k5 o4
      go_wp2_with fail
      rw [add_B, add_B]
      refine (shared_any (c ++ a) (c ++ b) _ (by simp; omega) (by simp; omega)).mono ?_
      rintro e w6 ⟨rfl, k6⟩
      rw [HA.out, Int.natCast_add]
      have o6 := o5.tr k6
      go_wp2
      go_ret
      exact ⟨rfl, o6⟩
  · have j3 : decide ((n : Int) < (a.length : Int)) = false := by simp; omega
    have jn3 : decide (n < a.length) = false := by simp; omega
    clear hne
    go_wp2_with fail
    go_quiet (fail)
    go_wp2_with fail
    refine (shared_any b a _ (by omega) (by omega)).mono ?_
    rintro e w4 ⟨rfl, k4⟩
    rw [HC.out]
    have o4 := (o2.dn nq).tr k4
    clear k4
    go_wp2_with fail
    refine (shared_any a a _ (by omega) (by omega)).mono ?_
    rintro e w5 ⟨rfl, k5⟩
    rw [HS.out]
    have o5 := o4.tr k5
    clear k5 o4
    go_wp2_with fail
    rw [add_B, add_B]
    refine (shared_any (c ++ a) (c ++ b) _ (by simp; omega) (by simp; omega)).mono ?_
    rintro e w6 ⟨rfl, k6⟩
    rw [HA.out, Int.natCast_add]
    have o6 := o5.tr k6
    go_wp2
    go_ret
    exact ⟨rfl, o6⟩

set_option maxRecDepth 100000 in
theorem blockShares_lifted (os : Os) (started : os.Started) (H : Type) (enc : TypeId × Value → H) :
    ReturnsInHanded {} Try.checked os 7 .any (Rows.blockSharesSpec.pre6 enc Try.prog Try.f7 Rows.blockSharesRow.domain false) (Rows.blockSharesSpec.post enc Try.prog Try.f7 false true false false) := by
  refine returnsInHanded_of_change (C := Try.checked) Try.own started (by kernel_rfl) Try.func7
    (ChangeSpec.witness6 (enc := enc) (C := Try.checked) false ⟨#[], #[.string ByteArray.empty, .string ByteArray.empty, .string ByteArray.empty], []⟩ 8 (by kernel_rfl) (by kernel_rfl) (by kernel_rfl) (by kernel_rfl)) ?_
  intro W base args ds gs before hval0 hW hcnd _
  have hval : ∀ (j : Nat) t v, Try.f7.params[j]? = some t → args[j]? = some v → Value.okWide Try.prog W .any base t v := hval0
  have hW' := hW
  obtain ⟨p, q, hA0, hV, rfl, hfz, hnd⟩ := hW
  have hA : DataW.TrodAll enc Try.prog W 0 (fun _ => true) true Try.f7.params.toList args.toList ds p := hA0
  rw [Try.params7] at hA hval
  obtain ⟨v0, v1, v2, d0, d1, d2, p0, p1, p2, rfl, rfl, rfl, h0, h1, h2⟩ := trodAll_three hA
  obtain ⟨rfl, rfl⟩ := trodVars_none hV
  have hlt : ∀ x ∈ p0 ++ (p1 ++ (p2)), x.block < W.heap.size := fun x hx => hW'.lt x (by simpa using hx)
  have k0 := h0
  have k1 := h1
  have k2 := h2
  obtain ⟨a0, rfl, o0⟩ := open_str (hval 0 9 v0 rfl rfl) h0
  obtain ⟨a1, rfl, o1⟩ := open_str (hval 1 9 v1 rfl rfl) h1
  obtain ⟨a2, rfl, o2⟩ := open_str (hval 2 9 v2 rfl rfl) h2
  clear hA0 hval0
  refine (law_shares a0 a1 a2 W).mono fun e W' ⟨he, hb⟩ => ?_
  subst he
  refine ⟨_, rfl, _, _, _, [], p0 ++ (p1 ++ (p2)), [], hW', trodAll_mk1 (shut_bool Try.underlying4 _), ?_, rfl, hb.frame _, fun h => by cases h⟩
  have r0 := Below.trod Try.laidOut (by kernel_rfl) (of_decide_eq_true (by kernel_rfl)) k0 hb (fun x hx => hlt x (by simp [hx]))
  have r1 := Below.trod Try.laidOut (by kernel_rfl) (of_decide_eq_true (by kernel_rfl)) k1 hb (fun x hx => hlt x (by simp [hx]))
  have r2 := Below.trod Try.laidOut (by kernel_rfl) (of_decide_eq_true (by kernel_rfl)) k2 hb (fun x hx => hlt x (by simp [hx]))
  exact trodAll_mk3 r0 r1 r2

theorem blockShares_holds : Rows.BlockSharesSaid :=
  OpenClaim.holds_of_wide 7 Try.f7 rfl rfl rfl rfl rfl rfl rfl ⟨rfl, rfl, rfl, rfl, rfl⟩ rfl rfl rfl rfl rfl (by kernel_rfl) Try.func7 (by kernel_rfl)
    (of_decide_eq_true (by kernel_rfl)) (by unfold Func.isWrapper; first | (rw [if_pos (by decide +kernel)]; kernel_rfl) | (rw [if_neg (by decide +kernel)]; exact ⟨rfl, rfl⟩))
    (fun os started H enc _ => blockShares_lifted os started H enc)
#print axioms blockShares_holds
end Go.Proofs.Ytdlendmbdikflaa
