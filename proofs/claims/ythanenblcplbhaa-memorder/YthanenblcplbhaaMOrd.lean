/-
  The order of cells, as plain mathematics: it is total, antisymmetric and transitive. No program here.
-/
import Derived.Test.YthanenblcplbhaaMCmp
namespace Go.Proofs.Ythanenblcplbhaa
open Go.RowKit

theorem cmpT_nn : cmpT [] [] = 0 := rfl
theorem cmpT_nc (b : UInt8) (t : List UInt8) : cmpT [] (b :: t) = -1 := rfl
theorem cmpT_cn (a : UInt8) (s : List UInt8) : cmpT (a :: s) [] = 1 := rfl
theorem cmpT_cc (a b : UInt8) (s t : List UInt8) : cmpT (a :: s) (b :: t) = if a.toNat < b.toNat then -1 else if b.toNat < a.toNat then 1 else cmpT s t := by
  unfold cmpT
  rw [Op.bytesLess]
  by_cases h1 : a.toNat < b.toNat
  · have h : a < b := by rw [UInt8.lt_iff_toNat_lt]; exact h1
    simp [h, h1]
  · have h : ¬ a < b := by rw [UInt8.lt_iff_toNat_lt]; exact h1
    by_cases h2 : b.toNat < a.toNat
    · have h3 : a ≠ b := by rintro rfl; omega
      simp [h, h1, h2, h3]
    · have h3 : a = b := UInt8.toNat_inj.1 (by omega)
      subst h3
      simp [h1]
theorem cmpT_same (a : UInt8) (s t : List UInt8) : cmpT (a :: s) (a :: t) = cmpT s t := by
  rw [cmpT_cc]; simp
theorem cmpT_vals (s t : List UInt8) : cmpT s t = -1 ∨ cmpT s t = 0 ∨ cmpT s t = 1 := by
  unfold cmpT; split
  · exact .inl rfl
  · split
    · exact .inr (.inl rfl)
    · exact .inr (.inr rfl)
theorem cmpT_neg : ∀ s t : List UInt8, cmpT t s = - cmpT s t
  | [], [] => rfl
  | [], b :: t => rfl
  | a :: s, [] => rfl
  | a :: s, b :: t => by
    have ih := cmpT_neg s t
    rw [cmpT_cc, cmpT_cc]
    split <;> split <;> (try split) <;> omega
theorem cmpT_zero : ∀ s t : List UInt8, cmpT s t = 0 → s = t
  | [], [] => fun _ => rfl
  | [], b :: t => fun h => by rw [cmpT_nc] at h; omega
  | a :: s, [] => fun h => by rw [cmpT_cn] at h; omega
  | a :: s, b :: t => fun h => by
    rw [cmpT_cc] at h
    split at h
    · omega
    · split at h
      · omega
      · have hab : a = b := UInt8.toNat_inj.1 (by omega)
        rw [hab, cmpT_zero s t h]
theorem cmpT_refl (s : List UInt8) : cmpT s s = 0 := by
  have := cmpT_neg s s; omega
theorem cmpT_trans : ∀ s t u : List UInt8, cmpT s t = -1 → cmpT t u = -1 → cmpT s u = -1
  | _, [], [] => fun _ h => by rw [cmpT_nn] at h; omega
  | _, b :: t, [] => fun _ h => by rw [cmpT_cn] at h; omega
  | [], _, c :: u => fun _ _ => cmpT_nc _ _
  | a :: s, [], c :: u => fun h _ => by rw [cmpT_cn] at h; omega
  | a :: s, b :: t, c :: u => fun h1 h2 => by
    have ih := cmpT_trans s t u
    rw [cmpT_cc] at *
    split at h1
    · split at h2
      · rw [if_pos (by omega)]
      · split at h2
        · omega
        · rw [if_pos (by omega)]
    · split at h1
      · omega
      · split at h2
        · rw [if_pos (by omega)]
        · split at h2
          · omega
          · rw [if_neg (by omega), if_neg (by omega)]
            exact ih h1 h2

theorem cmpN_vals (m n : Nat) : (cmpN m n = -1 ∧ m < n) ∨ (cmpN m n = 0 ∧ m = n) ∨ (cmpN m n = 1 ∧ n < m) := by
  unfold cmpN; split
  · omega
  · split <;> omega

theorem cmpC_vals (a b : Cel) : cmpC a b = -1 ∨ cmpC a b = 0 ∨ cmpC a b = 1 := by
  have h1 := cmpT_vals a.row b.row
  have h2 := cmpT_vals a.col b.col
  have h3 := cmpN_vals b.ts a.ts
  have h4 := cmpN_vals b.seq a.seq
  unfold cmpC or4
  split
  · omega
  · split
    · omega
    · split <;> omega
theorem cmpC_neg (a b : Cel) : cmpC b a = - cmpC a b := by
  have h1 := cmpT_neg a.row b.row
  have h2 := cmpT_neg a.col b.col
  have h3 := cmpN_vals b.ts a.ts
  have h4 := cmpN_vals b.seq a.seq
  have h5 := cmpN_vals a.ts b.ts
  have h6 := cmpN_vals a.seq b.seq
  unfold cmpC or4
  split <;> split <;> (try split) <;> (try split) <;> (try split) <;> (try split) <;> omega
theorem cmpC_refl (a : Cel) : cmpC a a = 0 := by have := cmpC_neg a a; omega
theorem cmpC_zero (a b : Cel) : cmpC a b = 0 ↔ a.row = b.row ∧ a.col = b.col ∧ a.ts = b.ts ∧ a.seq = b.seq := by
  have h1 := cmpT_zero a.row b.row
  have h2 := cmpT_zero a.col b.col
  have h3 := cmpN_vals b.ts a.ts
  have h4 := cmpN_vals b.seq a.seq
  constructor
  · intro h
    unfold cmpC or4 at h
    split at h
    · omega
    · split at h
      · omega
      · split at h
        · omega
        · exact ⟨h1 (by omega), h2 (by omega), by omega, by omega⟩
  · rintro ⟨e1, e2, e3, e4⟩
    unfold cmpC
    rw [e1, e2, e3, e4, cmpT_refl, cmpT_refl]
    simp [or4, cmpN]
theorem cmpC_lt (a b : Cel) : cmpC a b = -1 ↔ cmpT a.row b.row = -1 ∨ (a.row = b.row ∧ (cmpT a.col b.col = -1 ∨ (a.col = b.col ∧ (b.ts < a.ts ∨ (a.ts = b.ts ∧ b.seq < a.seq))))) := by
  have h1 := cmpT_zero a.row b.row
  have h2 := cmpT_zero a.col b.col
  have h3 := cmpN_vals b.ts a.ts
  have h4 := cmpN_vals b.seq a.seq
  have h5 : a.row = b.row → cmpT a.row b.row = 0 := fun e => by rw [e, cmpT_refl]
  have h6 : a.col = b.col → cmpT a.col b.col = 0 := fun e => by rw [e, cmpT_refl]
  unfold cmpC or4
  generalize cmpT a.row b.row = x at *
  generalize cmpT a.col b.col = y at *
  generalize (a.row = b.row) = p at *
  generalize (a.col = b.col) = q at *
  by_cases hp : p
  · have z1 : x = 0 := h5 hp
    by_cases hq : q
    · have z2 : y = 0 := h6 hq
      simp only [hp, hq, true_and]
      split <;> (try split) <;> (try split) <;> omega
    · have z2 : y ≠ 0 := fun h => hq (h2 h)
      simp only [hp, hq, true_and, false_and, or_false]
      split <;> (try split) <;> omega
  · have z1 : x ≠ 0 := fun h => hp (h1 h)
    simp only [hp, false_and, or_false]
    split <;> omega
theorem cmpC_lt_trans (a b c : Cel) (h1 : cmpC a b = -1) (h2 : cmpC b c = -1) : cmpC a c = -1 := by
  rw [cmpC_lt] at *
  rcases h1 with h1 | ⟨e1, h1⟩
  · rcases h2 with h2 | ⟨e2, _⟩
    · exact .inl (cmpT_trans _ _ _ h1 h2)
    · exact .inl (by rw [← e2]; exact h1)
  · rcases h2 with h2 | ⟨e2, h2⟩
    · exact .inl (by rw [e1]; exact h2)
    · refine .inr ⟨e1.trans e2, ?_⟩
      rcases h1 with h1 | ⟨f1, h1⟩
      · rcases h2 with h2 | ⟨f2, _⟩
        · exact .inl (cmpT_trans _ _ _ h1 h2)
        · exact .inl (by rw [← f2]; exact h1)
      · rcases h2 with h2 | ⟨f2, h2⟩
        · exact .inl (by rw [f1]; exact h2)
        · exact .inr ⟨f1.trans f2, by omega⟩
theorem cmpC_congr_left {a b : Cel} (c : Cel) (h : cmpC a b = 0) : cmpC a c = cmpC b c := by
  obtain ⟨h1, h2, h3, h4⟩ := (cmpC_zero a b).1 h
  unfold cmpC
  rw [h1, h2, h3, h4]
theorem cmpC_congr_right {a b : Cel} (c : Cel) (h : cmpC a b = 0) : cmpC c a = cmpC c b := by
  obtain ⟨h1, h2, h3, h4⟩ := (cmpC_zero a b).1 h
  unfold cmpC
  rw [h1, h2, h3, h4]
theorem cmpC_trans (a b c : Cel) (h1 : cmpC a b ≤ 0) (h2 : cmpC b c ≤ 0) : cmpC a c ≤ 0 := by
  rcases cmpC_vals a b with h | h | h
  · rcases cmpC_vals b c with k | k | k
    · rw [cmpC_lt_trans a b c h k]; omega
    · rw [← cmpC_congr_right a k, h]; omega
    · omega
  · rw [cmpC_congr_left c h]; exact h2
  · omega
end Go.Proofs.Ythanenblcplbhaa
