/-
  What the document's own Decode reads of a text, as mathematics. No program here.
-/
import Derived.Test.YteglddggjkibcaaFEr
namespace Go.Proofs.Yteglddggjkibcaa
open Go.RowKit Go.Shelf

/-- A file; none: it is missing. -/
def rrF (s : List UInt8) : Option (Itm × List UInt8) :=
  if (takenF (firstF s).2).2.2 = true ∧ (takenF (takenF (firstF s).2).2.1).2.2 = true ∧ (takenF (takenF (takenF (firstF s).2).2.1).2.1).2.2 = true ∧ 2 ≤ (takenF (takenF (takenF (firstF s).2).2.1).2.1).2.1.length then
    some (⟨(firstF s).1, (takenF (firstF s).2).1, (takenF (takenF (firstF s).2).2.1).1, (takenF (takenF (takenF (firstF s).2).2.1).2.1).1, (lowV ((takenF (takenF (takenF (firstF s).2).2.1).2.1).2.1.take 2) : Nat)⟩, (takenF (takenF (takenF (firstF s).2).2.1).2.1).2.1.drop 2)
  else none
def rrFs : Nat → List UInt8 → Option (List Itm × List UInt8)
  | 0, s => some ([], s)
  | n + 1, s => (rrFs n s).bind fun p => (rrF p.2).map fun q => (p.1 ++ [q.1], q.2)
def rrT (s : List UInt8) : Option (List UInt8 × List UInt8) := if (takenF s).2.2 = true then some ((takenF s).1, (takenF s).2.1) else none
def rrTs : Nat → List UInt8 → Option (List (List UInt8) × List UInt8)
  | 0, s => some ([], s)
  | n + 1, s => (rrTs n s).bind fun p => (rrT p.2).map fun q => (p.1 ++ [q.1], q.2)
def rrE (t : List UInt8) : Option Ed :=
  if t.length < 16 then none else
    (rrFs (firstF (t.drop 16)).1.toNat (firstF (t.drop 16)).2).bind fun p =>
      (rrTs (firstF p.2).1.toNat (firstF p.2).2).map fun q => ⟨p.1, q.1, lowV (t.take 8), lowV ((t.drop 8).take 8)⟩
/-- What the document's own Decode answers. -/
def rdecF (t : List UInt8) : Int × Ed :=
  match rrE t with
  | none => (50, Ed0)
  | some e => if encF e = (0, t) then (0, e) else (50, Ed0)

theorem firstF_len (s : List UInt8) : (firstF s).2.length ≤ s.length := by
  cases s with
  | nil => simp [firstF]
  | cons b t => simp [firstF]
theorem firstF_num (s : List UInt8) : -1 ≤ (firstF s).1 ∧ (firstF s).1 ≤ 255 := by
  cases s with
  | nil => simp [firstF]
  | cons b t =>
    have := b.toNat_lt
    simp only [firstF]
    omega
theorem takenF_len (s : List UInt8) : (takenF s).2.1.length ≤ s.length ∧ (takenF s).1.length ≤ 255 := by
  cases s with
  | nil => simp [takenF]
  | cons b t =>
    have := b.toNat_lt
    simp only [takenF]
    split
    · simp
    · simp only [List.length_drop, List.length_take, List.length_cons]
      omega
theorem rrF_len {s : List UInt8} {q : Itm × List UInt8} (h : rrF s = some q) : q.2.length ≤ s.length := by
  unfold rrF at h
  split at h
  · injection h with h
    rw [← h]
    have h1 := firstF_len s
    have h2 := (takenF_len (firstF s).2).1
    have h3 := (takenF_len (takenF (firstF s).2).2.1).1
    have h4 := (takenF_len (takenF (takenF (firstF s).2).2.1).2.1).1
    simp only [List.length_drop]
    omega
  · cases h
theorem rrFs_step {n : Nat} {s : List UInt8} {l : List Itm} {r : List UInt8} (h : rrFs n s = some (l, r)) : rrFs (n + 1) s = (rrF r).map fun q => (l ++ [q.1], q.2) := by
  simp only [rrFs, h, Option.bind_some]
theorem rrTs_step {n : Nat} {s : List UInt8} {l : List (List UInt8)} {r : List UInt8} (h : rrTs n s = some (l, r)) : rrTs (n + 1) s = (rrT r).map fun q => (l ++ [q.1], q.2) := by
  simp only [rrTs, h, Option.bind_some]
theorem rrFs_len : ∀ (n : Nat) (s : List UInt8) (l : List Itm) (r : List UInt8), rrFs n s = some (l, r) → l.length = n ∧ r.length ≤ s.length
  | 0, s, l, r, h => by
    injection h with h
    injection h with h1 h2
    subst h1 h2
    exact ⟨rfl, Nat.le_refl _⟩
  | n + 1, s, l, r, h => by
    obtain ⟨p, hp, h⟩ := Option.bind_eq_some_iff.1 h
    obtain ⟨q, hq, h⟩ := Option.map_eq_some_iff.1 h
    injection h with h1 h2
    subst h1 h2
    have := rrFs_len n s p.1 p.2 hp
    have := rrF_len hq
    simp only [List.length_append, List.length_singleton]
    omega
theorem rrTs_len : ∀ (n : Nat) (s : List UInt8) (l : List (List UInt8)) (r : List UInt8), rrTs n s = some (l, r) → l.length = n ∧ r.length ≤ s.length ∧ ∀ t ∈ l, t.length ≤ 255
  | 0, s, l, r, h => by
    injection h with h
    injection h with h1 h2
    subst h1 h2
    exact ⟨rfl, Nat.le_refl _, fun _ h => by simp at h⟩
  | n + 1, s, l, r, h => by
    obtain ⟨p, hp, h⟩ := Option.bind_eq_some_iff.1 h
    obtain ⟨q, hq, h⟩ := Option.map_eq_some_iff.1 h
    injection h with h1 h2
    subst h1 h2
    obtain ⟨h1, h2, h3⟩ := rrTs_len n s p.1 p.2 hp
    unfold rrT at hq
    split at hq
    · injection hq with hq
      rw [← hq]
      refine ⟨by simp; omega, by simp only; have := (takenF_len p.2).1; omega, fun t ht => ?_⟩
      rcases List.mem_append.1 ht with h | h
      · exact h3 t h
      · rw [List.mem_singleton.1 h]
        exact (takenF_len p.2).2
    · cases hq
theorem rrFs_none {n : Nat} {s : List UInt8} (h : rrFs n s = none) : ∀ m, n ≤ m → rrFs m s = none := by
  intro m hm
  induction hm with
  | refl => exact h
  | step _ ih => simp only [rrFs, ih, Option.bind_none]
theorem rrTs_none {n : Nat} {s : List UInt8} (h : rrTs n s = none) : ∀ m, n ≤ m → rrTs m s = none := by
  intro m hm
  induction hm with
  | refl => exact h
  | step _ ih => simp only [rrTs, ih, Option.bind_none]
end Go.Proofs.Yteglddggjkibcaa
