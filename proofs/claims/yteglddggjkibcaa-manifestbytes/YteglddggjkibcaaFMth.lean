/-
  The order of files, as plain mathematics; what a step of the sort keeps; in order by blocks. No program here.
-/
import Derived.Test.YteglddggjkibcaaFBase
namespace Go.Proofs.Yteglddggjkibcaa
open Go.RowKit

theorem cmpT_nn : cmpT [] [] = 0 := rfl
theorem cmpT_nc (b : UInt8) (t : List UInt8) : cmpT [] (b :: t) = -1 := rfl
theorem cmpT_cn (a : UInt8) (s : List UInt8) : cmpT (a :: s) [] = 1 := rfl
theorem cmpT_cc (a b : UInt8) (s t : List UInt8) : cmpT (a :: s) (b :: t) = if a.toNat < b.toNat then -1 else if b.toNat < a.toNat then 1 else cmpT s t := by
  unfold cmpT
  rw [Op.bytesLess]
  by_cases h1 : a.toNat < b.toNat
  · have h : a < b := by rw [UInt8.lt_iff_toNat_lt]; exact h1
    simp [h, h1]
  · have h : ¬ a < b := by rw [UInt8.lt_iff_toNat_lt]; exact h1
    by_cases h2 : b.toNat < a.toNat
    · have h3 : a ≠ b := by rintro rfl; omega
      simp [h, h1, h2, h3]
    · have h3 : a = b := UInt8.toNat_inj.1 (by omega)
      subst h3
      simp [h1]
theorem cmpT_same (a : UInt8) (s t : List UInt8) : cmpT (a :: s) (a :: t) = cmpT s t := by
  rw [cmpT_cc]; simp
theorem cmpT_vals (s t : List UInt8) : cmpT s t = -1 ∨ cmpT s t = 0 ∨ cmpT s t = 1 := by
  unfold cmpT; split
  · exact .inl rfl
  · split
    · exact .inr (.inl rfl)
    · exact .inr (.inr rfl)
theorem cmpT_neg : ∀ s t : List UInt8, cmpT t s = - cmpT s t
  | [], [] => rfl
  | [], b :: t => rfl
  | a :: s, [] => rfl
  | a :: s, b :: t => by
    have ih := cmpT_neg s t
    rw [cmpT_cc, cmpT_cc]
    split <;> split <;> (try split) <;> omega
theorem cmpT_zero : ∀ s t : List UInt8, cmpT s t = 0 → s = t
  | [], [] => fun _ => rfl
  | [], b :: t => fun h => by rw [cmpT_nc] at h; omega
  | a :: s, [] => fun h => by rw [cmpT_cn] at h; omega
  | a :: s, b :: t => fun h => by
    rw [cmpT_cc] at h
    split at h
    · omega
    · split at h
      · omega
      · have hab : a = b := UInt8.toNat_inj.1 (by omega)
        rw [hab, cmpT_zero s t h]
theorem cmpT_refl (s : List UInt8) : cmpT s s = 0 := by
  have := cmpT_neg s s; omega
theorem cmpT_trans : ∀ s t u : List UInt8, cmpT s t = -1 → cmpT t u = -1 → cmpT s u = -1
  | _, [], [] => fun _ h => by rw [cmpT_nn] at h; omega
  | _, b :: t, [] => fun _ h => by rw [cmpT_cn] at h; omega
  | [], _, c :: u => fun _ _ => cmpT_nc _ _
  | a :: s, [], c :: u => fun h _ => by rw [cmpT_cn] at h; omega
  | a :: s, b :: t, c :: u => fun h1 h2 => by
    have ih := cmpT_trans s t u
    rw [cmpT_cc] at *
    split at h1
    · split at h2
      · rw [if_pos (by omega)]
      · split at h2
        · omega
        · rw [if_pos (by omega)]
    · split at h1
      · omega
      · split at h2
        · rw [if_pos (by omega)]
        · split at h2
          · omega
          · rw [if_neg (by omega), if_neg (by omega)]
            exact ih h1 h2

theorem cmpZ_vals (m n : Int) : (cmpZ m n = -1 ∧ m < n) ∨ (cmpZ m n = 0 ∧ m = n) ∨ (cmpZ m n = 1 ∧ n < m) := by
  unfold cmpZ; split
  · omega
  · split <;> omega
theorem cmpI_vals (a b : Itm) : cmpI a b = -1 ∨ cmpI a b = 0 ∨ cmpI a b = 1 := by
  have h1 := cmpZ_vals a.lev b.lev
  have h2 := cmpT_vals a.low b.low
  have h3 := cmpT_vals a.name b.name
  unfold cmpI or3
  split
  · omega
  · split <;> omega
theorem cmpI_neg (a b : Itm) : cmpI b a = - cmpI a b := by
  have h1 := cmpZ_vals a.lev b.lev
  have h2 := cmpZ_vals b.lev a.lev
  have h3 := cmpT_neg a.low b.low
  have h4 := cmpT_neg a.name b.name
  unfold cmpI or3
  split <;> split <;> (try split) <;> (try split) <;> omega
theorem cmpI_refl (a : Itm) : cmpI a a = 0 := by have := cmpI_neg a a; omega
theorem cmpI_zero (a b : Itm) : cmpI a b = 0 ↔ a.lev = b.lev ∧ a.low = b.low ∧ a.name = b.name := by
  have h1 := cmpZ_vals a.lev b.lev
  have h2 := cmpT_zero a.low b.low
  have h3 := cmpT_zero a.name b.name
  constructor
  · intro h
    unfold cmpI or3 at h
    split at h
    · omega
    · split at h
      · omega
      · exact ⟨by omega, h2 (by omega), h3 h⟩
  · rintro ⟨e1, e2, e3⟩
    unfold cmpI
    rw [e1, e2, e3, cmpT_refl, cmpT_refl]
    simp [or3, cmpZ]
theorem cmpI_lt (a b : Itm) : cmpI a b = -1 ↔ a.lev < b.lev ∨ (a.lev = b.lev ∧ (cmpT a.low b.low = -1 ∨ (a.low = b.low ∧ cmpT a.name b.name = -1))) := by
  have h1 := cmpZ_vals a.lev b.lev
  have h2 := cmpT_zero a.low b.low
  have h6 : a.low = b.low → cmpT a.low b.low = 0 := fun e => by rw [e, cmpT_refl]
  unfold cmpI or3
  generalize cmpT a.low b.low = y at *
  generalize (a.low = b.low) = q at *
  by_cases hq : q
  · have z2 : y = 0 := h6 hq
    simp only [hq, true_and]
    split <;> (try split) <;> omega
  · have z2 : y ≠ 0 := fun h => hq (h2 h)
    simp only [hq, false_and, or_false]
    split <;> (try split) <;> omega
theorem cmpI_lt_trans (a b c : Itm) (h1 : cmpI a b = -1) (h2 : cmpI b c = -1) : cmpI a c = -1 := by
  rw [cmpI_lt] at *
  rcases h1 with h1 | ⟨e1, h1⟩
  · rcases h2 with h2 | ⟨e2, _⟩
    · exact .inl (by omega)
    · exact .inl (by omega)
  · rcases h2 with h2 | ⟨e2, h2⟩
    · exact .inl (by omega)
    · refine .inr ⟨e1.trans e2, ?_⟩
      rcases h1 with h1 | ⟨f1, h1⟩
      · rcases h2 with h2 | ⟨f2, _⟩
        · exact .inl (cmpT_trans _ _ _ h1 h2)
        · exact .inl (by rw [← f2]; exact h1)
      · rcases h2 with h2 | ⟨f2, h2⟩
        · exact .inl (by rw [f1]; exact h2)
        · exact .inr ⟨f1.trans f2, cmpT_trans _ _ _ h1 h2⟩
theorem cmpI_left {a b : Itm} (c : Itm) (h : cmpI a b = 0) : cmpI a c = cmpI b c := by
  obtain ⟨h1, h2, h3⟩ := (cmpI_zero a b).1 h
  unfold cmpI
  rw [h1, h2, h3]
theorem cmpI_right {a b : Itm} (c : Itm) (h : cmpI a b = 0) : cmpI c a = cmpI c b := by
  obtain ⟨h1, h2, h3⟩ := (cmpI_zero a b).1 h
  unfold cmpI
  rw [h1, h2, h3]
theorem cmpI_trans {a b c : Itm} (h1 : cmpI a b ≤ 0) (h2 : cmpI b c ≤ 0) : cmpI a c ≤ 0 := by
  rcases cmpI_vals a b with h | h | h
  · rcases cmpI_vals b c with k | k | k
    · rw [cmpI_lt_trans a b c h k]; omega
    · rw [← cmpI_right a k, h]; omega
    · omega
  · rw [cmpI_left c h]; exact h2
  · omega
theorem cmpI_lt_le {a b c : Itm} (h1 : cmpI a b < 0) (h2 : cmpI b c ≤ 0) : cmpI a c < 0 := by
  have h := cmpI_trans (a := a) (b := b) (c := c) (by omega) h2
  by_cases h0 : cmpI a c = 0
  · have h3 := cmpI_neg a c
    have h4 := cmpI_trans (a := b) (b := c) (c := a) h2 (by omega)
    have h5 := cmpI_neg a b
    omega
  · omega
theorem cmpI_le_lt {a b c : Itm} (h1 : cmpI a b ≤ 0) (h2 : cmpI b c < 0) : cmpI a c < 0 := by
  have h := cmpI_trans (a := a) (b := b) (c := c) h1 (by omega)
  by_cases h0 : cmpI a c = 0
  · have h3 := cmpI_neg a c
    have h4 := cmpI_trans (a := c) (b := a) (c := b) (by omega) h1
    have h5 := cmpI_neg b c
    omega
  · omega
/-- In order. -/
abbrev Srt (l : List Itm) : Prop := l.Pairwise fun a b => cmpI a b ≤ 0
/-- What a step of the sort keeps. -/
def Sim (s l : List Itm) : Prop := s.Perm l
theorem Sim.len {s l : List Itm} (h : Sim s l) : s.length = l.length := List.Perm.length_eq h
theorem Sim.sub {s l : List Itm} (h : Sim s l) : ∀ x ∈ s, x ∈ l := fun x hx => (List.Perm.mem_iff h).1 hx
theorem Sim.refl (l : List Itm) : Sim l l := List.Perm.refl l
theorem Sim.trans {a b c : List Itm} (h1 : Sim a b) (h2 : Sim b c) : Sim a c := List.Perm.trans h1 h2
theorem Sim.app {a b c d : List Itm} (h1 : Sim a b) (h2 : Sim c d) : Sim (a ++ c) (b ++ d) := List.Perm.append h1 h2
theorem Sim.rot {a b : List Itm} (_ : ∀ x ∈ b, ∀ y ∈ a, cmpI x y < 0) : Sim (b ++ a) (a ++ b) := List.perm_append_comm
theorem Srt.app {a b : List Itm} (h1 : Srt a) (h2 : Srt b) (h : ∀ x ∈ a, ∀ y ∈ b, cmpI x y ≤ 0) : Srt (a ++ b) := List.pairwise_append.2 ⟨h1, h2, h⟩

/-- In blocks of s that are in order. -/
def Ch (s : Nat) (l : List Itm) : Prop := ∀ i j x y, i < j → i / s = j / s → l[i]? = some x → l[j]? = some y → cmpI x y ≤ 0
theorem Ch.small {s : Nat} {l : List Itm} (hs : l.length ≤ s) : Ch s l ↔ Srt l := by
  constructor
  · intro h
    refine List.pairwise_iff_getElem.2 ?_
    intro i j hi hj hij
    exact h i j _ _ hij (by rw [Nat.div_eq_of_lt (by omega), Nat.div_eq_of_lt (by omega)]) (List.getElem?_eq_getElem hi) (List.getElem?_eq_getElem hj)
  · intro h i j x y hij _ hx hy
    obtain ⟨hi, rfl⟩ := List.getElem?_eq_some_iff.1 hx
    obtain ⟨hj, rfl⟩ := List.getElem?_eq_some_iff.1 hy
    exact List.pairwise_iff_getElem.1 h i j hi hj hij
theorem Ch.app {s : Nat} (hs : 0 < s) {p r : List Itm} (hp : p.length % s = 0) : Ch s (p ++ r) ↔ Ch s p ∧ Ch s r := by
  obtain ⟨q, hq⟩ : ∃ q, p.length = s * q := ⟨p.length / s, by have := Nat.div_add_mod p.length s; omega⟩
  constructor
  · intro h
    refine ⟨fun i j x y hij hd hx hy => ?_, fun i j x y hij hd hx hy => ?_⟩
    · have hi := (List.getElem?_eq_some_iff.1 hx).1
      have hj := (List.getElem?_eq_some_iff.1 hy).1
      exact h i j x y hij hd (by rw [List.getElem?_append_left hi]; exact hx) (by rw [List.getElem?_append_left hj]; exact hy)
    · refine h (p.length + i) (p.length + j) x y (by omega) ?_ (by rw [List.getElem?_append_right (by omega)]; simpa using hx) (by rw [List.getElem?_append_right (by omega)]; simpa using hy)
      rw [hq, Nat.mul_add_div hs, Nat.mul_add_div hs, hd]
  · rintro ⟨h1, h2⟩ i j x y hij hd hx hy
    by_cases hj : j < p.length
    · rw [List.getElem?_append_left hj] at hy
      rw [List.getElem?_append_left (by omega)] at hx
      exact h1 i j x y hij hd hx hy
    · by_cases hi : i < p.length
      · exfalso
        have a1 : i / s < q := (Nat.div_lt_iff_lt_mul hs).2 (by rw [Nat.mul_comm, ← hq]; exact hi)
        have a2 : q ≤ j / s := (Nat.le_div_iff_mul_le hs).2 (by rw [Nat.mul_comm, ← hq]; omega)
        omega
      · rw [List.getElem?_append_right (by omega)] at hx hy
        refine h2 (i - p.length) (j - p.length) x y (by omega) ?_ hx hy
        have b1 : i / s = q + (i - p.length) / s := by rw [← Nat.mul_add_div hs, ← hq]; congr 1; omega
        have b2 : j / s = q + (j - p.length) / s := by rw [← Nat.mul_add_div hs, ← hq]; congr 1; omega
        omega
theorem Ch.nil (s : Nat) : Ch s [] := fun i j x y _ _ hx => by simp at hx
end Go.Proofs.Yteglddggjkibcaa
