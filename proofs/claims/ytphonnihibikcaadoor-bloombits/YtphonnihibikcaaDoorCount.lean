/-
  What follows for filters, as plain lists: each name's bits are set, how many are set, that the order of the names counts nothing. No program in it. No conditions but those written.
-/
import Derived.Test.YtphonnihibikcaaDoorShown
namespace Go.Proofs.YtphonnihibikcaaDoor

/-- How many of the first m numbers are among these. -/
def cntIn (m : Nat) (ps : List Nat) : Nat := (List.range m).countP fun i => ps.contains i
theorem cntIn_nil (m : Nat) : cntIn m [] = 0 := by
  unfold cntIn
  rw [List.countP_eq_zero]
  simp
theorem cntIn_succ (m : Nat) (ps : List Nat) : cntIn (m + 1) ps = cntIn m ps + (if ps.contains m then 1 else 0) := by
  unfold cntIn
  rw [List.range_succ, List.countP_append, List.countP_singleton]
theorem cntIn_above (m : Nat) (ps : List Nat) (p : Nat) (h : m ≤ p) : cntIn m (ps ++ [p]) = cntIn m ps := by
  unfold cntIn
  apply List.countP_congr
  intro i hi
  have := List.mem_range.1 hi
  have hne : ¬ i = p := by omega
  simp [hne]
theorem cntIn_snoc (m : Nat) (ps : List Nat) (p : Nat) (h : p < m) : cntIn m (ps ++ [p]) = cntIn m ps + (if ps.contains p then 0 else 1) := by
  induction m with
  | zero => omega
  | succ m ih =>
    rw [cntIn_succ, cntIn_succ]
    by_cases hp : p = m
    · subst hp
      rw [cntIn_above _ _ _ (Nat.le_refl _)]
      by_cases hc : p ∈ ps <;> simp [hc]
    · rw [ih (by omega)]
      have hne : ¬ m = p := fun e => hp e.symm
      by_cases hc : m ∈ ps <;> by_cases hd : p ∈ ps <;> simp [hc, hd, hne]
theorem cntIn_le (m : Nat) (ps : List Nat) : ∀ (k : Nat), k ≤ ps.length → (∀ p ∈ ps, p < m) → cntIn m (ps.take k) ≤ k
  | 0, _, _ => by simp [cntIn_nil]
  | k + 1, hk, h => by
    have := cntIn_le m ps k (by omega) h
    rw [List.take_succ_eq_append_getElem (by omega), cntIn_snoc _ _ _ (h _ (List.getElem_mem _))]
    split <;> omega

theorem allP_lt (names : List (List UInt8)) (many : Nat) : ∀ p ∈ allP names many, p < many := by
  intro p hp
  obtain ⟨l, _, hl⟩ := List.mem_flatMap.1 hp
  unfold places at hl
  split at hl
  · cases hl
  · obtain ⟨i, _, rfl⟩ := List.mem_map.1 hl
    exact place_lt _ _ _ (by omega)
theorem bitAt_make (names : List (List UInt8)) (b i : Nat) : bitAt (makeL names b) i = (allP names (8 * sizeL names.length b)).contains i := by
  unfold makeL
  rw [bitAt_setAll, bitAt_zero, Bool.false_or]
  intro p hp
  rw [List.length_replicate]
  exact allP_lt _ _ p hp
theorem full_make (names : List (List UInt8)) (b : Nat) : full (makeL names b) = cntIn (8 * sizeL names.length b) (allP names (8 * sizeL names.length b)) := by
  rw [full_count, makeL_length]
  unfold cntIn
  apply List.countP_congr
  intro i _
  rw [bitAt_make]
theorem sizeL_pos (k b : Nat) : 0 < sizeL k b := by unfold sizeL; omega
theorem allP_length (names : List (List UInt8)) (many : Nat) (h : 0 < many) : (allP names many).length = 4 * names.length := by
  unfold allP
  induction names with
  | nil => rfl
  | cons l names ih =>
    rw [List.flatMap_cons, List.length_append, ih, List.length_cons]
    unfold places
    rw [if_neg (by omega)]
    simp
    omega
theorem full_le4 (names : List (List UInt8)) (b : Nat) : full (makeL names b) ≤ 4 * names.length := by
  have hp := sizeL_pos names.length b
  rw [full_make, ← allP_length names (8 * sizeL names.length b) (by omega)]
  have := cntIn_le (8 * sizeL names.length b) (allP names (8 * sizeL names.length b)) _ (Nat.le_refl _) (allP_lt _ _)
  rwa [List.take_length] at this
/-- Of each name that a filter was made of it is told that it may be there. -/
theorem may_has (names : List (List UInt8)) (b : Nat) (l : List UInt8) (hl : l ∈ names) : mayL (makeL names b) l = true := by
  have hp := sizeL_pos names.length b
  unfold mayL
  rw [show mayTo (makeL names b) l 4 = true from ?_, Bool.or_true]
  unfold mayTo
  rw [List.all_eq_true]
  intro j hj
  rw [bitAt_make, makeL_length, List.contains_iff_mem]
  refine List.mem_flatMap.2 ⟨l, hl, ?_⟩
  unfold places
  rw [if_neg (by omega)]
  exact List.mem_map.2 ⟨j, hj, rfl⟩
/-- As many names, and the same ones: the same filter. -/
theorem make_same (names names' : List (List UInt8)) (b : Nat) (hl : names.length = names'.length) (hm : ∀ x, x ∈ names ↔ x ∈ names') : makeL names b = makeL names' b := by
  apply bits_ext (by rw [makeL_length, makeL_length, hl])
  intro i _
  rw [bitAt_make, bitAt_make, hl, Bool.eq_iff_iff, List.contains_iff_mem, List.contains_iff_mem]
  unfold allP
  rw [List.mem_flatMap, List.mem_flatMap]
  constructor
  · rintro ⟨a, h1, h2⟩; exact ⟨a, (hm a).1 h1, h2⟩
  · rintro ⟨a, h1, h2⟩; exact ⟨a, (hm a).2 h1, h2⟩
end Go.Proofs.YtphonnihibikcaaDoor
