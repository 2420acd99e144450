/-
  A disk that has a log's file alone, as plain data: what writing, laying behind and opening make of it. Nothing of the program here.
-/
import Derived.Test.YtilimfbjkgeciaaDoorWOpn
namespace Go.Proofs.YtilimfbjkgeciaaDoor
set_option maxRecDepth 100000
open Go.RowKit

/-- A log's name. -/
structure Nm (x : List UInt8) : Prop where
  lo : 1 ≤ x.length
  hi : x.length ≤ 59
theorem side_ne (x : List UInt8) : side x ≠ x := fun h => by
  have := congrArg List.length h
  simp [side] at this
theorem Nm.b {x : List UInt8} (h : Nm x) : bad x = false := bad_of h.lo (by have := h.hi; omega)
theorem Nm.bs {x : List UInt8} (h : Nm x) : bad (side x) = false := bad_of (by simp [side]) (by have := h.hi; simp [side]; omega)
theorem Nm.b59 {x : List UInt8} (h : Nm x) : bad59 x = false := by
  unfold bad59
  rw [Bool.or_eq_false_iff, decide_eq_false_iff_not, decide_eq_false_iff_not]
  have := h.lo
  have := h.hi
  omega
/-- A disk with one file, or none. -/
abbrev P0 (cap : Nat) : Pd := ⟨cap, [], true, 0, 0⟩
abbrev P1 (cap : Nat) (x s : List UInt8) (n : Nat) : Pd := ⟨cap, [⟨x, s, n⟩], true, 0, 0⟩

section
variable {cap n : Nat} {x s t : List UInt8}
theorem write_none (hx : Nm x) (hc : s.length ≤ cap) : pwrite x s (P0 cap) = (P1 cap x s s.length, 0) := by
  have h1 := hx.b
  have h2 := hx.bs
  have h4 : ¬ cap < s.length := by omega
  simp [pwrite, wsteps, prow, pclear, pdelete, pneed, perr, pcreate, pappend, psync, prename, prerr, pgate, pfnd, pdel, pset, ptot, pmove, grow, fast, h1, h2, h4]
theorem write_one (hx : Nm x) (hc : t.length + s.length ≤ cap) : pwrite x s (P1 cap x t n) = (P1 cap x s s.length, 0) := by
  have h1 := hx.b
  have h2 := hx.bs
  have h3 := side_ne x
  have h4 : ¬ cap < t.length + s.length := by omega
  simp [pwrite, wsteps, prow, pclear, pdelete, pneed, perr, pcreate, pappend, psync, prename, prerr, pgate, pfnd, pdel, pset, ptot, pmove, grow, fast, h1, h2, h3.symm, h4]
theorem play_one (hx : Nm x) (hc : t.length + s.length ≤ cap) : play x s (P1 cap x t n) = (P1 cap x (t ++ s) (t ++ s).length, 0) := by
  have h1 := hx.b
  have h4 : ¬ cap < t.length + s.length := by omega
  simp [play, asteps, prow, pneed, perr, pappend, psync, pgate, pfnd, pset, ptot, grow, fast, h1, h4]
theorem read_one (hx : Nm x) : pread (P1 cap x t n) x = (t, 0) := by
  have h1 := hx.b
  simp [pread, pneed, perr, pfnd, h1]
theorem read_none (hx : Nm x) : pread (P0 cap) x = ([], 3) := by
  have h1 := hx.b
  simp [pread, pneed, perr, pfnd, h1]
theorem sync_one (hx : Nm x) : psync (P1 cap x t n) x = (P1 cap x t t.length, 0) := by
  have h1 := hx.b
  simp [psync, pneed, perr, pgate, pfnd, pset, fast, h1]
end

theorem allV_nil : allV [] = [] := allV_no (by decide)
theorem puts_nil : puts [] = [] := rfl
/-- Of a beginning of texts that were put, All tells those that are whole. -/
theorem allV_part (l : List (List UInt8)) (h : ∀ t ∈ l, t.length ≤ 65535) (q : Nat) :
    ∃ m, m ≤ l.length ∧ allV ((puts l).take q) = l.take m ∧ took (l.take m) ≤ q ∧ ∀ j, j ≤ l.length → took (l.take j) ≤ q → j ≤ m := by
  induction l generalizing q with
  | nil => exact ⟨0, Nat.le_refl _, by rw [puts_nil, List.take_nil, allV_nil]; rfl, Nat.zero_le _, fun j hj _ => hj⟩
  | cons t l ih =>
    have ht := h t (by simp)
    have tc : ∀ j, took ((t :: l).take (j + 1)) = 6 + t.length + took (l.take j) := fun j => by simp [took]
    by_cases hq : 6 + t.length ≤ q
    · obtain ⟨m, h1, h2, h3, h4⟩ := ih (fun x hx => h x (by simp [hx])) (q - (6 + t.length))
      refine ⟨m + 1, by simp; exact h1, ?_, by rw [tc]; omega, fun j hj hjq => ?_⟩
      · rw [puts_cons, allV_put _ _ _ ht hq, h2]
        rfl
      · cases j with
        | zero => omega
        | succ j =>
          rw [tc] at hjq
          have := h4 j (by simpa using hj) (by omega)
          omega
    · refine ⟨0, Nat.zero_le _, ?_, by simp [took], fun j hj hjq => ?_⟩
      · rw [puts_cons, allV_no (getV_cut _ _ _ ht (by omega))]
        rfl
      · cases j with
        | zero => omega
        | succ j =>
          rw [tc] at hjq
          omega
theorem took_mono (l : List (List UInt8)) (m : Nat) : took (l.take m) ≤ took l := by
  have : took l = took (l.take m) + took (l.drop m) := by
    unfold took
    rw [← List.sum_append, ← List.map_append, List.take_append_drop]
  omega
theorem allV_puts (l : List (List UInt8)) (h : ∀ t ∈ l, t.length ≤ 65535) : allV (puts l) = l := by
  obtain ⟨m, h1, h2, h3, h4⟩ := allV_part l h (puts l).length
  rw [List.take_length] at h2
  rw [h2]
  have := h4 l.length (Nat.le_refl _) (by rw [List.take_length, puts_len]; exact Nat.le_refl _)
  exact List.take_of_length_le this
theorem puts_take (l : List (List UInt8)) (m : Nat) : (puts l).take (took (l.take m)) = puts (l.take m) := by
  conv => lhs; rw [← List.take_append_drop m l, puts_append]
  rw [← puts_len]
  rw [List.take_append_of_le_length (by simp [puts_len]), List.take_of_length_le (by simp [puts_len])]

/-- A disk whose one file is synced. -/
abbrev Ps (cap : Nat) (x s : List UInt8) : Pd := P1 cap x s s.length
section
variable {cap n : Nat} {x : List UInt8} {T U : List (List UInt8)}
theorem open_none (hx : Nm x) : popen (P0 cap) x = (Ps cap x [], [], 0) := by
  unfold popen popenF popenT
  rw [hx.b59, if_neg (by decide), read_none hx]
  simp only [allV_nil, List.take_nil]
  rw [if_neg (by simp), write_none hx (by simp)]
  simp
/-- Open of texts whose file lost its end. -/
theorem open_part (hx : Nm x) (hT : ∀ t ∈ T, t.length ≤ 65535) (q : Nat) (hc : 2 * (puts T).length ≤ cap) :
    ∃ m, m ≤ T.length ∧ (∀ j, j ≤ T.length → took (T.take j) ≤ q → j ≤ m) ∧ popen (P1 cap x ((puts T).take q) n) x = (Ps cap x (puts (T.take m)), T.take m, 0) := by
  obtain ⟨m, h1, h2, h3, h4⟩ := allV_part T hT q
  refine ⟨m, h1, h4, ?_⟩
  have hle : (puts (T.take m)).length ≤ (puts T).length := by rw [puts_len, puts_len]; exact took_mono T m
  have hrd : pread (P1 cap x ((puts T).take q) n) x = ((puts T).take q, 0) := read_one hx
  have htk : ((puts T).take q).take (took (T.take m)) = puts (T.take m) := by
    rw [List.take_take, Nat.min_eq_left h3, puts_take]
  unfold popen popenF popenT
  rw [hx.b59, if_neg (by decide), hrd]
  simp only [h2]
  rw [if_neg (by simp), htk]
  by_cases he : took (T.take m) = ((puts T).take q).length
  · rw [if_pos ⟨trivial, he⟩, sync_one hx]
    rw [he, List.take_length] at htk
    rw [htk]
  · rw [if_neg (fun h => he h.2), write_one hx (by rw [List.length_take]; omega)]
theorem open_one (hx : Nm x) (hT : ∀ t ∈ T, t.length ≤ 65535) : popen (P1 cap x (puts T) n) x = (Ps cap x (puts T), T, 0) := by
  have hrd : pread (P1 cap x (puts T) n) x = (puts T, 0) := read_one hx
  unfold popen popenF popenT
  rw [hx.b59, if_neg (by decide), hrd]
  simp only [allV_puts T hT]
  rw [if_neg (by simp), if_pos ⟨trivial, (puts_len T).symm⟩, sync_one hx]
theorem wide_none (h : ∀ t ∈ T, t.length ≤ 65535) : T.any wideT = false := by
  rw [List.any_eq_false]
  intro t ht
  have := h t ht
  unfold wideT
  simp
  omega
theorem append_one (hx : Nm x) (hU : ∀ t ∈ U, t.length ≤ 65535) (many : Nat) (hc : (puts T).length + (puts U).length ≤ cap) :
    pappendL x (P1 cap x (puts T) n) many false U = ⟨Ps cap x (puts (T ++ U)), many + U.length, false, 0⟩ := by
  unfold pappendL pchange
  rw [if_neg (by decide), wide_none hU, if_neg (by decide), play_one hx hc]
  rw [if_pos rfl, puts_append]
theorem reset_one (hx : Nm x) (hU : ∀ t ∈ U, t.length ≤ 65535) (many : Nat) (hc : (puts T).length + (puts U).length ≤ cap) :
    presetL x (P1 cap x (puts T) n) many false U = ⟨Ps cap x (puts U), U.length, false, 0⟩ := by
  unfold presetL pchange
  rw [if_neg (by decide), wide_none hU, if_neg (by decide), write_one hx hc]
  rw [if_pos rfl]
end
end Go.Proofs.YtilimfbjkgeciaaDoor
