/-
  Cells row by row, as plain mathematics: the groups of a list, and how a search among rows that rise finds where one ends. No program here.
-/
import Derived.Test.YtohokmfbcehkgaaCIts
namespace Go.Proofs.Ytohokmfbcehkgaa
open Go.RowKit

theorem tw_at {α : Type} (p : α → Bool) : ∀ (t : List α) (x : α), t[(t.takeWhile p).length]? = some x → p x = false
  | [], x, h => by simp at h
  | a :: t, x, h => by
    rw [List.takeWhile_cons] at h
    cases hp : p a with
    | false =>
      rw [hp] at h
      simp at h
      rw [← h]; exact hp
    | true =>
      rw [hp] at h
      simp at h
      exact tw_at p t x h
theorem tw_lt {α : Type} (p : α → Bool) : ∀ (t : List α) (i : Nat) (x : α), i < (t.takeWhile p).length → t[i]? = some x → p x = true
  | [], i, x, h, _ => by simp at h
  | a :: t, i, x, h, hx => by
    rw [List.takeWhile_cons] at h
    cases hp : p a with
    | false => rw [hp] at h; simp at h
    | true =>
      rw [hp] at h
      cases i with
      | zero => simp at hx; rw [← hx]; exact hp
      | succ i => exact tw_lt p t i x (by simpa using h) (by simpa using hx)
theorem tw_drop {α : Type} (p : α → Bool) : ∀ t : List α, t.dropWhile p = t.drop (t.takeWhile p).length
  | [] => rfl
  | a :: t => by
    rw [List.takeWhile_cons, List.dropWhile_cons]
    cases hp : p a with
    | false => simp
    | true => simp [tw_drop p t]
theorem tw_take {α : Type} (p : α → Bool) : ∀ t : List α, t.takeWhile p = t.take (t.takeWhile p).length
  | [] => rfl
  | a :: t => by
    rw [List.takeWhile_cons]
    cases hp : p a with
    | false => simp
    | true =>
      rw [if_pos rfl, List.length_cons, List.take_succ_cons]
      rw [← tw_take p t]
theorem tw_len {α : Type} (p : α → Bool) : ∀ t : List α, (t.takeWhile p).length ≤ t.length
  | [] => Nat.le_refl _
  | a :: t => by
    rw [List.takeWhile_cons]
    have := tw_len p t
    split <;> simp <;> omega
theorem tw_all {α : Type} (p : α → Bool) (t : List α) : ∀ x ∈ t.takeWhile p, p x = true := by
  intro x hx
  obtain ⟨i, hi, rfl⟩ := List.getElem_of_mem hx
  refine tw_lt p t i _ hi ?_
  have h := List.getElem?_eq_getElem hi
  generalize (t.takeWhile p)[i] = y at *
  rw [tw_take, List.getElem?_take, if_pos hi] at h
  exact h

def sameR (r : List UInt8) (c : Cel) : Bool := c.row == r
/-- A row of a list of cells: where it begins, its name, its cells. -/
structure Grp where
  s : Nat
  row : List UInt8
  cs : List Cel
/-- The rows of a list of cells, one by one. -/
def grps : Nat → List Cel → List Grp
  | _, [] => []
  | s, c :: t => ⟨s, c.row, c :: t.takeWhile (sameR c.row)⟩ :: grps (s + 1 + (t.takeWhile (sameR c.row)).length) (t.dropWhile (sameR c.row))
termination_by _ l => l.length
decreasing_by
  rw [tw_drop]
  simp
  omega
theorem grps_nil (s : Nat) : grps s [] = [] := by rw [grps]
theorem grps_cons (s : Nat) (c : Cel) (t : List Cel) : grps s (c :: t) = ⟨s, c.row, c :: t.takeWhile (sameR c.row)⟩ :: grps (s + 1 + (t.takeWhile (sameR c.row)).length) (t.dropWhile (sameR c.row)) := by rw [grps]
theorem grps_flat (s : Nat) (l : List Cel) : (grps s l).flatMap (·.cs) = l := by
  induction s, l using grps.induct with
  | case1 s => rw [grps_nil]; rfl
  | case2 s c t ih =>
    rw [grps_cons, List.flatMap_cons, ih]
    simp [List.takeWhile_append_dropWhile]
theorem grps_len (s : Nat) (l : List Cel) : (grps s l).length ≤ l.length := by
  induction s, l using grps.induct with
  | case1 s => rw [grps_nil]; simp
  | case2 s c t ih =>
    rw [grps_cons]
    rw [tw_drop] at *
    simp at *
    omega
/-- What is so of each row of a list. -/
structure GrpIn (L : List Cel) (x : Grp) : Prop where
  ne : x.cs ≠ []
  rows : ∀ c ∈ x.cs, c.row = x.row
  part : x.cs = (L.drop x.s).take x.cs.length
  fits : x.s + x.cs.length ≤ L.length
theorem grps_in (s : Nat) (l : List Cel) : ∀ (L : List Cel), l = L.drop s → s ≤ L.length → ∀ x ∈ grps s l, GrpIn L x := by
  induction s, l using grps.induct with
  | case1 s => intro L _ _ x hx; rw [grps_nil] at hx; cases hx
  | case2 s c t ih =>
    intro L hL hs x hx
    have hlen : (c :: t).length = L.length - s := by rw [hL, List.length_drop]
    have htw := tw_len (sameR c.row) t
    simp at hlen
    rw [grps_cons] at hx
    rcases List.mem_cons.1 hx with rfl | hx
    · refine ⟨by simp, fun d hd => ?_, ?_, ?_⟩
      · rcases List.mem_cons.1 hd with rfl | hd
        · rfl
        · simpa [sameR] using tw_all _ _ d hd
      · dsimp only
        rw [← hL, List.length_cons, List.take_succ_cons]
        rw [← tw_take]
      · simp; omega
    · refine ih L ?_ (by omega) x hx
      rw [tw_drop, Nat.add_assoc, ← List.drop_drop, ← hL, Nat.add_comm 1, List.drop_succ_cons]
/-- Rows that rise. -/
def RowsUp (l : List Cel) : Prop := ∀ (i j : Nat) (a b : Cel), i ≤ j → l[i]? = some a → l[j]? = some b → leT a.row b.row = true
theorem leT_refl (s : List UInt8) : leT s s = true := by simp [leT]
theorem leT_eq {s t : List UInt8} (h1 : leT s t = true) (h2 : leT t s = true) : s = t := by
  rw [leT_iff] at *
  have := cmpT_neg s t
  exact cmpT_zero s t (by omega)
theorem row_le {a b : Cel} (h : cmpC a b < 0) : leT a.row b.row = true := by
  have h2 : cmpC a b = -1 := by rcases cmpC_vals a b with x | x | x <;> omega
  rw [leT_iff]
  rcases (cmpC_lt a b).1 h2 with h3 | ⟨h3, -⟩
  · omega
  · rw [h3, cmpT_refl]; omega
theorem rising_rows : ∀ l : List Cel, rising l = true → RowsUp l
  | [], _ => fun i j a b _ h _ => by simp at h
  | [x], _ => fun i j a b hij h1 h2 => by
    have hj : j = 0 := by have := (List.getElem?_eq_some_iff.1 h2).1; simp at this; omega
    have hi : i = 0 := by omega
    subst hi hj
    simp at h1 h2
    rw [← h1, ← h2]; exact leT_refl _
  | x :: y :: t, h => by
    rw [rising, Bool.and_eq_true, decide_eq_true_eq] at h
    have ih := rising_rows (y :: t) h.2
    intro i j a b hij h1 h2
    cases i with
    | succ i =>
      cases j with
      | zero => omega
      | succ j => exact ih i j a b (by omega) (by simpa using h1) (by simpa using h2)
    | zero =>
      simp at h1
      subst h1
      cases j with
      | zero => simp at h2; rw [← h2]; exact leT_refl _
      | succ j => exact leT_trans (row_le h.1) (ih 0 j y b (by omega) rfl (by simpa using h2))
theorem RowsUp.drop {l : List Cel} (h : RowsUp l) (n : Nat) : RowsUp (l.drop n) := fun i j a b hij h1 h2 => by
  rw [List.getElem?_drop] at h1 h2
  exact h _ _ a b (by omega) h1 h2
theorem grp_end {c : Cel} {t : List Cel} (h : RowsUp (c :: t)) {r : Nat} (hr : r ≤ (c :: t).length) (h1 : ∀ (i : Nat) (x : Cel), i < r → (c :: t)[i]? = some x → leT x.row c.row = true) (h2 : ∀ (i : Nat) (x : Cel), r ≤ i → (c :: t)[i]? = some x → leT x.row c.row = false) : r = 1 + (t.takeWhile (sameR c.row)).length := by
  rcases Nat.lt_trichotomy r (1 + (t.takeWhile (sameR c.row)).length) with hlt | heq | hgt
  · exfalso
    cases r with
    | zero =>
      have := h2 0 c (by omega) rfl
      rw [leT_refl] at this
      cases this
    | succ q =>
      have hq : q < (t.takeWhile (sameR c.row)).length := by omega
      have hl := tw_len (sameR c.row) t
      have hx := List.getElem?_eq_getElem (show q < t.length by omega)
      have hp := tw_lt _ t q _ hq hx
      have := h2 (q + 1) t[q] (Nat.le_refl _) (by simp)
      rw [show t[q].row = c.row by simpa [sameR] using hp, leT_refl] at this
      cases this
  · exact heq
  · exfalso
    have hm : (t.takeWhile (sameR c.row)).length < t.length := by simp at hr; omega
    have hx := List.getElem?_eq_getElem hm
    have hp := tw_at _ t _ hx
    have hx2 : (c :: t)[1 + (t.takeWhile (sameR c.row)).length]? = some t[(t.takeWhile (sameR c.row)).length] := by rw [Nat.add_comm, List.getElem?_cons_succ]; exact hx
    have g1 := h1 _ _ hgt hx2
    have g2 := h 0 _ c _ (Nat.zero_le _) rfl hx2
    have := leT_eq g1 g2
    simp [sameR, this] at hp
end Go.Proofs.Ytohokmfbcehkgaa
