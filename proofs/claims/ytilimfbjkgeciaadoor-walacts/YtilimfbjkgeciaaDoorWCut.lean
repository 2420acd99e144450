/-
  A log's disk with a fuse, as plain data: what a write, and a laying behind, leaves where it is cut. Nothing of the program here.
-/
import Derived.Test.YtilimfbjkgeciaaDoorWOne
namespace Go.Proofs.YtilimfbjkgeciaaDoor
set_option maxRecDepth 100000
open Go.RowKit

theorem pcr_full (keep : Int) (x t : List UInt8) : pcr keep ⟨x, t, t.length⟩ = ⟨x, t, t.length⟩ := by
  unfold pcr pstay
  simp [Nat.mod_one]
/-- A fuse is laid, or none. -/
theorem fuse_up {p : Pd} (h : p.up = true) (n keep : Int) : ∃ l k, pfuse p n keep = ⟨p.cap, p.files, true, l, k⟩ := by
  unfold pfuse
  rw [if_neg (by rw [h]; decide), h]
  split
  · exact ⟨_, _, rfl⟩
  · exact ⟨_, _, rfl⟩
section
variable {cap n : Nat} {x s t : List UInt8}
theorem write_cut (hx : Nm x) (hc : t.length + s.length ≤ cap) (left : Nat) (keep : Int) :
    ∃ files e up l k, pwrite x s ⟨cap, [⟨x, t, t.length⟩], true, left, keep⟩ = (⟨cap, files, up, l, k⟩, e) ∧
      ((e = 0 ∧ ∃ m r, files = ⟨x, s, m⟩ :: r) ∨ (e = 6 ∧ ((∃ m r, files = ⟨x, s, m⟩ :: r) ∨ (∃ m r, files = ⟨x, t, m⟩ :: r)))) := by
  have h1 := hx.b
  have h2 := hx.bs
  have h3 := side_ne x
  have h4 : ¬ cap < t.length + s.length := by omega
  have h5 := pcr_full keep x t
  have h6 := pcr_full keep x s
  rcases Classical.em (keep.tmod 2 = 0) with hk | hk <;> rcases left with _ | _ | _ | _ | _ | left
  all_goals simp [pwrite, wsteps, prow, pclear, pdelete, pneed, perr, pcreate, pappend, psync, prename, prerr, pgate, pfnd, pdel, pset, ptot, pmove, grow, fast, h1, h2, h3.symm, h4, hk, pcrash, h5, h6]
  all_goals exact ⟨_, _, ⟨rfl, rfl⟩, by simp⟩
/-- What is laid behind is there, or a beginning of it. -/
theorem play_cut (hx : Nm x) (hc : t.length + s.length ≤ cap) (left : Nat) (keep : Int) :
    (∃ l k, play x s ⟨cap, [⟨x, t, t.length⟩], true, left, keep⟩ = (⟨cap, [⟨x, t ++ s, (t ++ s).length⟩], true, l, k⟩, 0)) ∨
    (∃ q, t.length ≤ q ∧ play x s ⟨cap, [⟨x, t, t.length⟩], true, left, keep⟩ = (⟨cap, [⟨x, (t ++ s).take q, q⟩], false, 0, 0⟩, 6)) := by
  have h1 := hx.b
  have h4 : ¬ cap < t.length + s.length := by omega
  have h5 : ∀ keep, t.length ≤ pstay keep ⟨x, t ++ s, t.length⟩ := fun keep => by
    unfold pstay
    split
    · exact Nat.le_add_right _ _
    · exact Nat.le_refl _
  have h6 := pcr_full keep x (t ++ s)
  match left with
  | 0 =>
    left
    simp [play, asteps, prow, pneed, perr, pappend, psync, pgate, pfnd, pset, ptot, grow, fast, h1, h4]
  | 1 =>
    right
    refine ⟨_, h5 keep, ?_⟩
    simp [play, asteps, prow, pneed, perr, pappend, psync, pgate, pfnd, pset, ptot, grow, fast, h1, h4, pcr]
  | 2 =>
    right
    by_cases hk : keep.tmod 2 = 0
    · refine ⟨_, h5 keep, ?_⟩
      simp [play, asteps, prow, pneed, perr, pappend, psync, pgate, pfnd, pset, ptot, grow, fast, h1, h4, hk, pcrash, pcr]
    · refine ⟨(t ++ s).length, by simp, ?_⟩
      rw [List.take_length]
      rw [List.length_append] at h6
      simp [play, asteps, prow, pneed, perr, pappend, psync, pgate, pfnd, pset, ptot, grow, fast, h1, h4, hk, h6]
  | l + 3 =>
    left
    simp [play, asteps, prow, pneed, perr, pappend, psync, pgate, pfnd, pset, ptot, grow, fast, h1, h4]
end
/-- Open, whatever lies beside the log's file. -/
theorem open_head {cap n : Nat} {x : List UInt8} {T : List (List UInt8)} (hx : Nm x) (hT : ∀ t ∈ T, t.length ≤ 65535) (r : List Pf) :
    popen ⟨cap, ⟨x, puts T, n⟩ :: r, true, 0, 0⟩ x = (⟨cap, ⟨x, puts T, (puts T).length⟩ :: pset x fast r, true, 0, 0⟩, T, 0) := by
  have h1 := hx.b
  have hrd : pread ⟨cap, ⟨x, puts T, n⟩ :: r, true, 0, 0⟩ x = (puts T, 0) := by simp [pread, pneed, perr, pfnd, h1]
  have hsy : psync ⟨cap, ⟨x, puts T, n⟩ :: r, true, 0, 0⟩ x = (⟨cap, ⟨x, puts T, (puts T).length⟩ :: pset x fast r, true, 0, 0⟩, 0) := by simp [psync, pneed, perr, pgate, pfnd, pset, fast, h1]
  unfold popen popenF popenT
  rw [hx.b59, if_neg (by decide), hrd]
  simp only [allV_puts T hT]
  rw [if_neg (by simp), if_pos ⟨trivial, (puts_len T).symm⟩, hsy]
end Go.Proofs.YtilimfbjkgeciaaDoor
