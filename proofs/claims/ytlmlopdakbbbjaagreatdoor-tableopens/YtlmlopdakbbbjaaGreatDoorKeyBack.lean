/-
  A key tells its cell, and cells stand as their keys do: plain mathematics over what the code computes. Conditions: the cells may be, their numbers are of 64 bits.
-/
import Derived.Test.YtlmlopdakbbbjaaGreatDoorCut
import Derived.Test.YtlmlopdakbbbjaaGreatDoorOrder
namespace Go.Proofs.YtlmlopdakbbbjaaGreatDoor
open Go.RowKit

theorem marks_cons (b : UInt8) (t : List UInt8) : marks (b :: t) = mark1 b ++ marks t := by simp [marks]
theorem cutM_marks (t r : List UInt8) : cutM (marks t ++ 0 :: 1 :: r) = some (t, r) := by
  induction t with
  | nil => exact cutM_end r
  | cons b t ih =>
    rw [marks_cons]
    by_cases hb : b = 0
    · subst hb
      have h := after_zero [] (marks t ++ 0 :: 1 :: r)
      rw [after_nil, ih] at h
      simpa [mark1, after] using h
    · have h := after_byte [] b (marks t ++ 0 :: 1 :: r) hb
      rw [after_nil, ih] at h
      simpa [mark1, hb, after] using h
theorem high8_len (n : Nat) : (high8 n).length = 8 := by simp [high8]
theorem highV_high8 (n : Nat) (h : n < 18446744073709551616) : highV (high8 n) = n := by
  simp only [highV, high8, List.foldl_cons, List.foldl_nil, UInt8.toNat_ofNat']
  omega
theorem neg_neg (n : Nat) (h : n < 18446744073709551616) : neg64 (neg64 n) = n := by unfold neg64; omega
theorem neg_lt (n : Nat) : neg64 n < 18446744073709551616 := by unfold neg64; omega

/-- The cell without what is no part of its key. -/
def bare (c : Cel) : Cel := ⟨c.row, c.col, c.ts, c.seq, false, []⟩
theorem bare_may {c : Cel} (h : mayB c = true) : mayB (bare c) = true := by
  obtain ⟨q1, q2, q3, q4, q5⟩ := mayB_parts h
  rw [mayB_yes (bare c) q1 q2 q3 q4 (by simp [bare])]
  rfl
theorem fromK_key (c : Cel) (hm : mayB c = true) (hok : c.ok) : fromK (key c) = some (bare c) := by
  obtain ⟨ht, hs⟩ := hok
  have e0 : key c = marks c.row ++ 0 :: 1 :: (marks c.col ++ 0 :: 1 :: (high8 (neg64 c.ts) ++ high8 (neg64 c.seq))) := by simp [key]
  have t1 : (high8 (neg64 c.ts) ++ high8 (neg64 c.seq)).take 8 = high8 (neg64 c.ts) := by
    rw [List.take_append_of_le_length (by rw [high8_len]; omega), List.take_of_length_le (by rw [high8_len]; omega)]
  have t2 : (high8 (neg64 c.ts) ++ high8 (neg64 c.seq)).drop 8 = high8 (neg64 c.seq) := by
    have := List.drop_left (l₁ := high8 (neg64 c.ts)) (l₂ := high8 (neg64 c.seq))
    rwa [high8_len] at this
  have hb := bare_may hm
  unfold bare at hb
  unfold fromK
  simp only [e0, cutM_marks, t1, t2, List.length_append, high8_len, if_true, highV_high8 _ (neg_lt _), neg_neg _ ht, neg_neg _ hs, hb]
  rfl

theorem cmpT_pre (p s t : List UInt8) : cmpT (p ++ s) (p ++ t) = cmpT s t := by
  induction p with
  | nil => rfl
  | cons a p ih => rw [List.cons_append, List.cons_append, cmpT_same, ih]
theorem b0_lt (b : UInt8) (h : b ≠ 0) : (0 : UInt8).toNat < b.toNat := by
  have : b.toNat ≠ 0 := fun e => h (UInt8.toNat_inj.1 e)
  show 0 < b.toNat
  omega
/-- Names stand as their marks do. -/
theorem cmpT_marks (s t x y : List UInt8) : cmpT (marks s ++ 0 :: 1 :: x) (marks t ++ 0 :: 1 :: y) = if s = t then cmpT x y else cmpT s t := by
  induction s generalizing t with
  | nil =>
    cases t with
    | nil => simp only [marks, List.flatMap_nil, List.nil_append, if_true]; rw [cmpT_same, cmpT_same]
    | cons b t =>
      rw [if_neg (by simp), cmpT_nc, marks_cons]
      simp only [marks, List.flatMap_nil, List.nil_append]
      by_cases hb : b = 0
      · subst hb
        simp only [mark1, if_true, List.cons_append, List.nil_append]
        rw [cmpT_same, cmpT_cc, if_pos (by decide)]
      · simp only [mark1, if_neg hb, List.cons_append, List.nil_append]
        rw [cmpT_cc, if_pos (b0_lt b hb)]
  | cons a s ih =>
    cases t with
    | nil =>
      rw [if_neg (by simp), cmpT_cn, marks_cons]
      simp only [marks, List.flatMap_nil, List.nil_append]
      by_cases ha : a = 0
      · subst ha
        simp only [mark1, if_true, List.cons_append, List.nil_append]
        rw [cmpT_same, cmpT_cc, if_neg (by decide), if_pos (by decide)]
      · simp only [mark1, if_neg ha, List.cons_append, List.nil_append]
        have := b0_lt a ha
        rw [cmpT_cc, if_neg (by omega), if_pos this]
    | cons b t =>
      rw [marks_cons, marks_cons, List.append_assoc, List.append_assoc]
      by_cases hab : a = b
      · subst hab
        rw [cmpT_pre, ih t, cmpT_same]
        by_cases h : s = t
        · simp [h]
        · simp [h]
      · rw [if_neg (by simp [hab]), cmpT_cc]
        have hne : a.toNat ≠ b.toNat := fun e => hab (UInt8.toNat_inj.1 e)
        by_cases ha : a = 0
        · subst ha
          have hb : b ≠ 0 := fun e => hab e.symm
          have := b0_lt b hb
          simp only [mark1, if_true, if_neg hb, List.cons_append, List.nil_append]
          rw [cmpT_cc, if_pos this, if_pos this]
        · by_cases hb : b = 0
          · subst hb
            have := b0_lt a ha
            simp only [mark1, if_true, if_neg ha, List.cons_append, List.nil_append]
            rw [cmpT_cc, if_neg (by omega), if_pos this, if_neg (by omega), if_pos this]
          · simp only [mark1, if_neg ha, if_neg hb, List.cons_append, List.nil_append]
            rw [cmpT_cc]
            by_cases hlt : a.toNat < b.toNat
            · rw [if_pos hlt, if_pos hlt]
            · rw [if_neg hlt, if_neg hlt, if_pos (by omega), if_pos (by omega)]

theorem highV_cons (a : UInt8) (l : List UInt8) : highV (a :: l) = a.toNat * 256 ^ l.length + highV l := by
  suffices h : ∀ (l : List UInt8) (n : Nat), l.foldl (fun n b => n * 256 + b.toNat) n = n * 256 ^ l.length + highV l by
    have h1 := h l (0 * 256 + a.toNat)
    unfold highV at h1 ⊢
    simp only [List.foldl_cons] at *
    rw [h1]; simp
  intro l
  induction l with
  | nil => intro n; simp [highV]
  | cons b l ih =>
    intro n
    have h1 := ih (n * 256 + b.toNat)
    have h2 := ih (0 * 256 + b.toNat)
    simp only [List.foldl_cons, List.length_cons]
    rw [h1]
    unfold highV at *
    simp only [List.foldl_cons]
    rw [h2, Nat.pow_succ, Nat.add_mul, Nat.add_mul]
    simp only [Nat.zero_mul, Nat.zero_add, Nat.mul_comm (256 ^ l.length) 256, Nat.mul_assoc, Nat.add_assoc]
/-- Bytes of one length stand as their numbers do. -/
theorem cmpT_high (s t x y : List UInt8) (h : s.length = t.length) : cmpT (s ++ x) (t ++ y) = if highV s = highV t then cmpT x y else cmpN (highV s) (highV t) := by
  induction s generalizing t with
  | nil =>
    have : t = [] := List.eq_nil_of_length_eq_zero h.symm
    subst this
    simp
  | cons a s ih =>
    cases t with
    | nil => simp at h
    | cons b t =>
      have hl : s.length = t.length := by simpa using h
      have h1 := highV_lt s
      have h2 := highV_lt t
      rw [List.cons_append, List.cons_append, cmpT_cc, highV_cons, highV_cons, hl]
      rw [hl] at h1
      generalize 256 ^ t.length = P at *
      have hv := cmpN_vals (a.toNat * P + highV s) (b.toNat * P + highV t)
      by_cases hab : a.toNat = b.toNat
      · rw [if_neg (by omega), if_neg (by omega), ih t hl, hab]
        have hv2 := cmpN_vals (highV s) (highV t)
        rw [hab] at hv
        by_cases e : highV s = highV t
        · rw [if_pos e, if_pos (by omega)]
        · rw [if_neg e, if_neg (by omega)]; omega
      · by_cases hlt : a.toNat < b.toNat
        · have h3 : a.toNat * P + P ≤ b.toNat * P := by
            have : (a.toNat + 1) * P ≤ b.toNat * P := Nat.mul_le_mul_right P hlt
            rw [Nat.add_mul] at this; omega
          rw [if_pos hlt, if_neg (by omega)]; omega
        · have h3 : b.toNat * P + P ≤ a.toNat * P := by
            have : (b.toNat + 1) * P ≤ a.toNat * P := Nat.mul_le_mul_right P (by omega)
            rw [Nat.add_mul] at this; omega
          rw [if_neg hlt, if_pos (by omega), if_neg (by omega)]; omega

theorem cmpT_key (a b : Cel) (ha : a.ok) (hb : b.ok) : cmpT (key a) (key b) = cmpC a b := by
  obtain ⟨hat, has⟩ := ha
  obtain ⟨hbt, hbs⟩ := hb
  have e : ∀ c : Cel, key c = marks c.row ++ 0 :: 1 :: (marks c.col ++ 0 :: 1 :: (high8 (neg64 c.ts) ++ (high8 (neg64 c.seq) ++ []))) := fun c => by simp [key]
  rw [e a, e b, cmpT_marks, cmpT_marks, cmpT_high _ _ _ _ (by rw [high8_len, high8_len]), cmpT_high _ _ _ _ (by rw [high8_len, high8_len])]
  simp only [highV_high8 _ (neg_lt _)]
  have z1 := cmpT_zero a.row b.row
  have z2 := cmpT_zero a.col b.col
  have v1 := cmpN_vals (neg64 a.ts) (neg64 b.ts)
  have v2 := cmpN_vals (neg64 a.seq) (neg64 b.seq)
  have v3 := cmpN_vals b.ts a.ts
  have v4 := cmpN_vals b.seq a.seq
  have r1 : a.row = b.row → cmpT a.row b.row = 0 := fun e => by rw [e, cmpT_refl]
  have r2 : a.col = b.col → cmpT a.col b.col = 0 := fun e => by rw [e, cmpT_refl]
  rw [cmpT_nn]
  unfold neg64 at *
  unfold cmpC or4
  generalize cmpT a.row b.row = x at *
  generalize cmpT a.col b.col = y at *
  by_cases hp : a.row = b.row
  · have e1 := r1 hp
    rw [if_pos hp]
    by_cases hq : a.col = b.col
    · have e2 := r2 hq
      rw [if_pos hq]
      split <;> split <;> (try split) <;> (try split) <;> omega
    · have e2 : y ≠ 0 := fun h => hq (z2 h)
      rw [if_neg hq]
      split <;> (try split) <;> omega
  · have e1 : x ≠ 0 := fun h => hp (z1 h)
    rw [if_neg hp, if_pos e1]
theorem key_eq (a b : Cel) (ha : a.ok) (hb : b.ok) : key a = key b ↔ cmpC a b = 0 := by
  rw [← cmpT_key a b ha hb]
  constructor
  · intro h; rw [h, cmpT_refl]
  · exact cmpT_zero _ _
end Go.Proofs.YtlmlopdakbbbjaaGreatDoor
