/-
  With how many bytes two texts begin alike: Shared, of the code and of the reference; lender. Conditions: lengths as written.
-/
import Derived.Test.YtlmlopdakbbbjaaGreatDoorBk
namespace Go.Proofs.YtlmlopdakbbbjaaGreatDoor
open Go.RowKit

/-- With how many bytes, the same, both begin. -/
def share : List UInt8 → List UInt8 → Nat
  | a :: s, b :: t => if a = b then share s t + 1 else 0
  | _, _ => 0
theorem share_nil_left (t : List UInt8) : share [] t = 0 := by cases t <;> rfl
theorem share_nil_right (s : List UInt8) : share s [] = 0 := by cases s <;> rfl
theorem share_step (a b : List UInt8) (k : Nat) (h1 : k < a.length) (h2 : k < b.length) : share (a.drop k) (b.drop k) = if a[k] = b[k] then share (a.drop (k + 1)) (b.drop (k + 1)) + 1 else 0 := by
  rw [List.drop_eq_getElem_cons h1, List.drop_eq_getElem_cons h2, share]
theorem share_end (a b : List UInt8) (k : Nat) (h : a.length ≤ k ∨ b.length ≤ k) : share (a.drop k) (b.drop k) = 0 := by
  rcases h with h | h
  · rw [List.drop_of_length_le h, share_nil_left]
  · rw [List.drop_of_length_le h, share_nil_right]
theorem share_le (a b : List UInt8) : share a b ≤ a.length ∧ share a b ≤ b.length := by
  induction a generalizing b with
  | nil => simp [share_nil_left]
  | cons x a ih =>
    cases b with
    | nil => simp [share_nil_right]
    | cons y b =>
      have := ih b
      rw [share]
      split <;> simp <;> omega
theorem ne_byte {a b : UInt8} (h : ¬ a = b) : ((a.toNat : Int) == (b.toNat : Int)) = false := by
  rw [beq_eq_false_iff_ne]; intro e; exact h (UInt8.toNat_inj.1 (by omega))
theorem eq_byte {a b : UInt8} (h : a = b) : ((a.toNat : Int) == (b.toNat : Int)) = true := by rw [h]; simp

set_option maxHeartbeats 1000000 in
theorem shared_quiet (a b : List UInt8) (w : World) (ha : a.length ≤ 1000000000) :
    Calls Tryz.prog 99 #[.string (B a), .string (B b)] w fun e w' => e = .returned (.int .i64 (share a b : Nat)) ∧ ∃ m, w' = w.drewN m := by
  go_enter Tryz.func99, Tryz.ntmps99
  go_wp2_with fail
  go_loopw [5] (fun i wr => ∃ k : Nat, k ≤ a.length ∧ i = .int .i64 k ∧ Hid (share a b = k + share (a.drop k) (b.drop k)) ∧ ∃ m, wr = w.drewN m) (fun i _ => a.length - (intOf i).toNat)
  case atStart => exact ⟨0, by omega, rfl, Lib.hid (by simp), 0, rfl⟩
  case round =>
    obtain ⟨k, hk, rfl, HS, m, hw⟩ := hrel
    by_cases h1 : k < a.length
    · have g1 : decide ((k : Int) < (a.length : Int)) = true := by simp; omega
      have j1 : (k : Int) < (a.length : Int) := by omega
      by_cases h2 : k < b.length
      · have g2 : decide ((k : Int) < (b.length : Int)) = true := by simp; omega
        have j2 : (k : Int) < (b.length : Int) := by omega
        have HT := Lib.hid (share_step a b k h1 h2)
        have i0 : (B a)[k]'(by simpa [ByteArray.size] using h1) = a[k] := rfl
        have i1 : (B b)[k]'(by simpa [ByteArray.size] using h2) = b[k] := rfl
        by_cases he : a[k] = b[k]
        · have g3 := eq_byte he
          have HN := Lib.hid (show share a b = (k + 1) + share (a.drop (k + 1)) (b.drop (k + 1)) by rw [HS.out, HT.out, if_pos he]; omega)
          clear HT he
          go_wp2_with fail
          go_quiet (fail)
          go_wp2
          go_roundw
          case rel => exact ⟨k + 1, by omega, by go_num, HN, m + nq, by first | rfl | rw [hw, World.drewN_drewN]⟩
          case measure => simp [intOf]; omega
        · have g3 := ne_byte he
          have HN := Lib.hid (show share a b = k by rw [HS.out, HT.out, if_neg he]; omega)
          clear HT he
          go_wp2_with fail
          go_quiet (fail)
          go_wp2
          go_ret
          exact ⟨by rw [HN.out]; rfl, m + nq, by first | rfl | rw [hw, World.drewN_drewN]⟩
      · have g2 : decide ((k : Int) < (b.length : Int)) = false := by simp; omega
        have HN := Lib.hid (show share a b = k by rw [HS.out, share_end _ _ _ (.inr (by omega))]; omega)
        go_wp2_with fail
        go_quiet (fail)
        go_wp2
        go_ret
        exact ⟨by rw [HN.out]; rfl, m + nq, by first | rfl | rw [hw, World.drewN_drewN]⟩
    · have g1 : decide ((k : Int) < (a.length : Int)) = false := by simp; omega
      have HN := Lib.hid (show share a b = k by rw [HS.out, share_end _ _ _ (.inl (by omega))]; omega)
      go_wp2_with fail
      go_quiet (fail)
      go_wp2
      go_ret
      exact ⟨by rw [HN.out]; rfl, m + nq, by first | rfl | rw [hw, World.drewN_drewN]⟩

set_option maxHeartbeats 1000000 in
theorem rshared_quiet (a b : List UInt8) (w : World) (ha : a.length ≤ 1000000000) :
    Calls Tryz.prog 59 #[.string (B a), .string (B b)] w fun e w' => e = .returned (.int .i64 (share a b : Nat)) ∧ ∃ m, w' = w.drewN m := by
  go_enter Tryz.func59, Tryz.ntmps59
  go_wp2_with fail
  go_loopw [5] (fun i wr => ∃ k : Nat, k ≤ a.length ∧ i = .int .i64 k ∧ Hid (share a b = k + share (a.drop k) (b.drop k)) ∧ ∃ m, wr = w.drewN m) (fun i _ => a.length - (intOf i).toNat)
  case atStart => exact ⟨0, by omega, rfl, Lib.hid (by simp), 0, rfl⟩
  case round =>
    obtain ⟨k, hk, rfl, HS, m, hw⟩ := hrel
    by_cases h1 : k < a.length
    · have g1 : decide ((k : Int) < (a.length : Int)) = true := by simp; omega
      have j1 : (k : Int) < (a.length : Int) := by omega
      by_cases h2 : k < b.length
      · have g2 : decide ((k : Int) < (b.length : Int)) = true := by simp; omega
        have j2 : (k : Int) < (b.length : Int) := by omega
        have HT := Lib.hid (share_step a b k h1 h2)
        have i0 : (B a)[k]'(by simpa [ByteArray.size] using h1) = a[k] := rfl
        have i1 : (B b)[k]'(by simpa [ByteArray.size] using h2) = b[k] := rfl
        by_cases he : a[k] = b[k]
        · have g3 := eq_byte he
          have HN := Lib.hid (show share a b = (k + 1) + share (a.drop (k + 1)) (b.drop (k + 1)) by rw [HS.out, HT.out, if_pos he]; omega)
          clear HT he
          go_wp2_with fail
          go_quiet (fail)
          go_wp2
          go_roundw
          case rel => exact ⟨k + 1, by omega, by go_num, HN, m + nq, by first | rfl | rw [hw, World.drewN_drewN]⟩
          case measure => simp [intOf]; omega
        · have g3 := ne_byte he
          have HN := Lib.hid (show share a b = k by rw [HS.out, HT.out, if_neg he]; omega)
          clear HT he
          go_wp2_with fail
          go_quiet (fail)
          go_wp2
          go_ret
          exact ⟨by rw [HN.out]; rfl, m + nq, by first | rfl | rw [hw, World.drewN_drewN]⟩
      · have g2 : decide ((k : Int) < (b.length : Int)) = false := by simp; omega
        have HN := Lib.hid (show share a b = k by rw [HS.out, share_end _ _ _ (.inr (by omega))]; omega)
        go_wp2_with fail
        go_quiet (fail)
        go_wp2
        go_ret
        exact ⟨by rw [HN.out]; rfl, m + nq, by first | rfl | rw [hw, World.drewN_drewN]⟩
    · have g1 : decide ((k : Int) < (a.length : Int)) = false := by simp; omega
      have HN := Lib.hid (show share a b = k by rw [HS.out, share_end _ _ _ (.inl (by omega))]; omega)
      go_wp2_with fail
      go_quiet (fail)
      go_wp2
      go_ret
      exact ⟨by rw [HN.out]; rfl, m + nq, by first | rfl | rw [hw, World.drewN_drewN]⟩

theorem old_drawn {w w' : World} (h : ∃ m, w' = w.drewN m) : Old w w' := by
  obtain ⟨m, rfl⟩ := h
  exact (Old.re _).dn _
theorem shared_any (a b : List UInt8) (w : World) (ha : a.length ≤ 1000000000) (_hb : b.length ≤ 1000000000) :
    Calls Tryz.prog 99 #[.string (B a), .string (B b)] w fun e w' => e = .returned (.int .i64 (share a b : Nat)) ∧ Old w w' :=
  (shared_quiet a b w ha).mono fun _ _ ⟨h, k⟩ => ⟨h, old_drawn k⟩
theorem rshared_any (a b : List UInt8) (w : World) (ha : a.length ≤ 1000000000) :
    Calls Tryz.prog 59 #[.string (B a), .string (B b)] w fun e w' => e = .returned (.int .i64 (share a b : Nat)) ∧ Old w w' :=
  (rshared_quiet a b w ha).mono fun _ _ ⟨h, k⟩ => ⟨h, old_drawn k⟩

/-- The key that may lend its beginning. -/
def lend (place : Nat) (last : List UInt8) : List UInt8 := if place % 4 = 0 then [] else last

set_option maxHeartbeats 1000000 in
theorem lender_any (place : Nat) (last : List UInt8) (w : World) (hp : place ≤ 1000000) :
    Calls Tryz.prog 100 #[.int .i64 place, .string (B last)] w fun e w' => e = .returned (.string (B (lend place last))) ∧ w = w' := by
  have hr : ((place : Int).tmod 4) = ((place % 4 : Nat) : Int) := by rw [Int.tmod_eq_emod_of_nonneg (by omega)]; omega
  by_cases h : place % 4 = 0
  · have h2 : (((place % 4 : Nat) : Int) == 0) = true := by rw [h]; rfl
    have HL := Lib.hid (show lend place last = [] by rw [lend, if_pos h])
    go_enter Tryz.func100, Tryz.ntmps100
    go_wp2
    all_goals go_ret
    all_goals first
      | exact ⟨by rw [HL.out]; rfl, rfl⟩
      | (exfalso; simp_all)
  · have HL := Lib.hid (show lend place last = last by rw [lend, if_neg h])
    have h2 : (((place % 4 : Nat) : Int) == 0) = false := by rw [beq_eq_false_iff_ne]; omega
    go_enter Tryz.func100, Tryz.ntmps100
    go_wp2
    all_goals go_ret
    all_goals first
      | exact ⟨by rw [HL.out]; rfl, rfl⟩
      | (exfalso; simp_all)
end Go.Proofs.YtlmlopdakbbbjaaGreatDoor
