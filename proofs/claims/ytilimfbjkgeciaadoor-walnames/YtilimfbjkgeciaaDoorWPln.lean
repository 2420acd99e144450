/-
  A disk without a fuse, as plain data: what writing, laying behind and opening make of one file, and that all other files stay. Nothing of the program here.
-/
import Derived.Test.YtilimfbjkgeciaaDoorWOne
namespace Go.Proofs.YtilimfbjkgeciaaDoor
set_option maxRecDepth 100000
open Go.RowKit

theorem pfnd_name {L : List Pf} {z : List UInt8} {f : Pf} (h : pfnd L z = some f) : f.name = z := by
  have := List.find?_some h
  simpa using this
theorem pfnd_set (L : List Pf) (y z : List UInt8) (g : Pf → Pf) (hg : ∀ f, (g f).name = f.name) : pfnd (pset y g L) z = if z = y then (pfnd L z).map g else pfnd L z := by
  induction L with
  | nil => unfold pfnd pset; split <;> rfl
  | cons f L ih =>
    unfold pfnd pset at ih ⊢
    rw [List.map_cons, List.find?_cons, List.find?_cons]
    have hn : (if f.name = y then g f else f).name = f.name := by split; exact hg f; rfl
    rw [hn]
    by_cases e : f.name = z
    · rw [show (f.name == z) = true by simpa using e]
      by_cases e2 : z = y
      · rw [if_pos e2, if_pos (e.trans e2)]; rfl
      · rw [if_neg e2, if_neg (fun h => e2 (e.symm.trans h))]
    · rw [show (f.name == z) = false by simpa using e]
      exact ih
theorem grow_nm (s : List UInt8) : ∀ f, (grow s f).name = f.name := fun _ => rfl
theorem fast_nm : ∀ f, (fast f).name = f.name := fun _ => rfl
theorem pfnd_fast (L : List Pf) (y z : List UInt8) : pfnd (pset y fast L) z = if z = y then (pfnd L z).map fast else pfnd L z := pfnd_set L y z fast fast_nm
theorem pfnd_grow (L : List Pf) (y z t : List UInt8) : pfnd (pset y (grow t) L) z = if z = y then (pfnd L z).map (grow t) else pfnd L z := pfnd_set L y z (grow t) (grow_nm t)
theorem pfnd_del (L : List Pf) (y z : List UInt8) : pfnd (pdel y L) z = if z = y then none else pfnd L z := by
  induction L with
  | nil => unfold pfnd pdel; split <;> rfl
  | cons f L ih =>
    unfold pdel at ih ⊢
    by_cases e : f.name = y
    · rw [List.filter_cons_of_neg (by simp [e]), ih]
      by_cases e2 : z = y
      · rw [if_pos e2, if_pos e2]
      · rw [if_neg e2, if_neg e2]
        unfold pfnd
        rw [List.find?_cons, show (f.name == z) = false by rw [e]; simpa using fun h => e2 h.symm]
    · rw [List.filter_cons_of_pos (by simpa using e)]
      unfold pfnd at ih ⊢
      rw [List.find?_cons, List.find?_cons]
      by_cases e3 : f.name = z
      · rw [show (f.name == z) = true by simpa using e3]
        rw [if_neg (fun h => e (e3.trans h))]
      · rw [show (f.name == z) = false by simpa using e3]
        exact ih
theorem pfnd_snoc (L : List Pf) (f : Pf) (z : List UInt8) : pfnd (L ++ [f]) z = (pfnd L z).or (if f.name = z then some f else none) := by
  unfold pfnd
  rw [List.find?_append]
  congr 1
  rw [List.find?_cons, List.find?_nil]
  by_cases e : f.name = z
  · rw [show (f.name == z) = true by simpa using e, if_pos e]
  · rw [show (f.name == z) = false by simpa using e, if_neg e]
theorem pfnd_le {L : List Pf} {z : List UInt8} {f : Pf} (h : pfnd L z = some f) : f.s.length ≤ ptot L := by
  have hm : f ∈ L := List.mem_of_find?_eq_some h
  clear h
  induction L with
  | nil => cases hm
  | cons y L ih =>
    simp only [ptot, List.map_cons, List.sum_cons] at ih ⊢
    rcases List.mem_cons.1 hm with rfl | h
    · omega
    · have := ih h; omega
theorem ptot_snoc (L : List Pf) (f : Pf) : ptot (L ++ [f]) = ptot L + f.s.length := by simp [ptot]
theorem ptot_del (y : List UInt8) (L : List Pf) : ptot (pdel y L) ≤ ptot L := by
  induction L with
  | nil => exact Nat.le_refl _
  | cons f L ih =>
    unfold pdel ptot at ih ⊢
    by_cases e : f.name = y
    · rw [List.filter_cons_of_neg (by simp [e]), List.map_cons, List.sum_cons]; omega
    · rw [List.filter_cons_of_pos (by simpa using e), List.map_cons, List.map_cons, List.sum_cons, List.sum_cons]; omega
theorem pdel_len (y : List UInt8) (L : List Pf) : (pdel y L).length ≤ L.length := List.length_filter_le _ _
theorem pset_len (y : List UInt8) (g : Pf → Pf) (L : List Pf) : (pset y g L).length = L.length := by simp [pset]
theorem ptot_fast (y : List UInt8) (L : List Pf) : ptot (pset y fast L) = ptot L := by
  unfold ptot pset
  rw [List.map_map]
  congr 1
  apply List.map_congr_left
  intro f _
  simp only [Function.comp]
  split <;> rfl
theorem ptot_grow (y s : List UInt8) (L : List Pf) : ptot (pset y (grow s) L) ≤ ptot L + L.length * s.length := by
  induction L with
  | nil => exact Nat.zero_le _
  | cons f L ih =>
    unfold ptot pset at ih ⊢
    simp only [List.map_cons, List.sum_cons, List.length_cons]
    rw [Nat.succ_mul]
    have hg : (if f.name = y then grow s f else f).s.length ≤ f.s.length + s.length := by
      split
      · exact Nat.le_of_eq (List.length_append)
      · omega
    omega

/-- A disk that is up, without a fuse. -/
abbrev Pl (cap : Nat) (L : List Pf) : Pd := ⟨cap, L, true, 0, 0⟩
theorem gate_pl (cap : Nat) (L M : List Pf) (a : Bool) : pgate (Pl cap L) a M = (Pl cap M, 0) := by simp [pgate]
theorem need_pl {cap : Nat} {L : List Pf} {y : List UInt8} (hb : bad y = false) : pneed (Pl cap L) y = if (pfnd L y).isNone = true then 3 else 0 := by simp [pneed, perr, hb]
/-- A file is written; all others stay. -/
theorem write_pl {cap : Nat} {x s : List UInt8} {L : List Pf} (hx : Nm x) (hl : L.length ≤ 100) (hc : ptot L + s.length ≤ cap) :
    ∃ M, pwrite x s (Pl cap L) = (Pl cap M, 0) ∧ pfnd M x = some ⟨x, s, s.length⟩ ∧ (∀ z, z ≠ x → z ≠ side x → pfnd M z = pfnd L z) ∧ M.length ≤ L.length + 1 ∧ ptot M ≤ ptot L + (L.length + 2) * s.length := by
  have h1 := hx.b
  have h2 := hx.bs
  have h3 := side_ne x
  have hcl : ∃ L1, pclear (side x) (Pl cap L) = (Pl cap L1, 0) ∧ pfnd L1 (side x) = none ∧ (∀ z, z ≠ side x → pfnd L1 z = pfnd L z) ∧ L1.length ≤ L.length ∧ ptot L1 ≤ ptot L := by
    unfold pclear pdelete
    rw [need_pl h2]
    cases hf : pfnd L (side x) with
    | none => exact ⟨L, by simp, hf, fun _ _ => rfl, Nat.le_refl _, Nat.le_refl _⟩
    | some f =>
      refine ⟨pdel (side x) L, ?_, by rw [pfnd_del, if_pos rfl], fun z hz => by rw [pfnd_del, if_neg hz], pdel_len _ _, ptot_del _ _⟩
      simp [gate_pl]
  obtain ⟨L1, e1, f1, g1, l1, t1⟩ := hcl
  have e2 : pcreate (Pl cap L1) (side x) = (Pl cap (L1 ++ [⟨side x, [], 0⟩]), 0) := by
    unfold pcreate
    rw [show perr (Pl cap L1) (side x) = 0 by simp [perr, h2], if_neg (by decide), f1, if_neg (by simp), if_neg (by show ¬ 200 ≤ L1.length; omega), gate_pl]
  obtain ⟨L2, hL2⟩ : ∃ L2, L2 = L1 ++ [⟨side x, [], 0⟩] := ⟨_, rfl⟩
  have f2 : ∀ z, pfnd L2 z = if z = side x then some ⟨side x, [], 0⟩ else pfnd L z := by
    intro z
    rw [hL2, pfnd_snoc]
    by_cases e : z = side x
    · subst e; rw [f1, if_pos rfl, if_pos rfl]; rfl
    · rw [if_neg e, if_neg (fun h => e h.symm), g1 z e, Option.or_none]
  have t2 : ptot L2 ≤ ptot L := by rw [hL2, ptot_snoc]; simpa using t1
  have l2 : L2.length ≤ L.length + 1 := by rw [hL2]; simp; omega
  rw [← hL2] at e2
  have e3 : pappend (Pl cap L2) (side x) s = (Pl cap (pset (side x) (grow s) L2), 0) := by
    unfold pappend
    rw [need_pl h2, f2, if_pos rfl]
    simp only [Option.isNone_some, Bool.false_eq_true, if_false]
    rw [if_neg (by decide), if_neg (by show ¬ cap < ptot L2 + s.length; omega), gate_pl]
  obtain ⟨L3, hL3⟩ : ∃ L3, L3 = pset (side x) (grow s) L2 := ⟨_, rfl⟩
  have f3 : ∀ z, pfnd L3 z = if z = side x then some ⟨side x, s, 0⟩ else pfnd L z := by
    intro z
    rw [hL3, pfnd_grow, f2]
    by_cases e : z = side x
    · rw [if_pos e, if_pos e, if_pos e]; rfl
    · rw [if_neg e, if_neg e, if_neg e]
  have t3 : ptot L3 ≤ ptot L + (L.length + 1) * s.length := by
    have h4 := ptot_grow (side x) s L2
    have h5 := Nat.mul_le_mul_right s.length l2
    rw [hL3]; omega
  have l3 : L3.length ≤ L.length + 1 := by rw [hL3, pset_len]; exact l2
  rw [← hL3] at e3
  have e4 : psync (Pl cap L3) (side x) = (Pl cap (pset (side x) fast L3), 0) := by
    unfold psync
    rw [need_pl h2, f3, if_pos rfl]
    simp [gate_pl]
  obtain ⟨L4, hL4⟩ : ∃ L4, L4 = pset (side x) fast L3 := ⟨_, rfl⟩
  have f4 : ∀ z, pfnd L4 z = if z = side x then some ⟨side x, s, s.length⟩ else pfnd L z := by
    intro z
    rw [hL4, pfnd_fast, f3]
    by_cases e : z = side x
    · rw [if_pos e, if_pos e, if_pos e]; rfl
    · rw [if_neg e, if_neg e, if_neg e]
  have t4 : ptot L4 ≤ ptot L + (L.length + 1) * s.length := by rw [hL4, ptot_fast]; exact t3
  have l4 : L4.length ≤ L.length + 1 := by rw [hL4, pset_len]; exact l3
  have d4 : (pdel (side x) L4).length ≤ L.length := by
    have hin : ∃ f ∈ L4, f.name = side x := by
      have := f4 (side x)
      rw [if_pos rfl] at this
      exact ⟨_, List.mem_of_find?_eq_some this, rfl⟩
    obtain ⟨f, hf, hn⟩ := hin
    have : (pdel (side x) L4).length < L4.length := by
      unfold pdel
      rw [List.length_filter_lt_length_iff_exists]
      exact ⟨f, hf, by simp [hn]⟩
    omega
  rw [← hL4] at e4
  have e5 : prename (Pl cap L4) (side x) x = (Pl cap (pmove (side x) x L4), 0) := by
    unfold prename
    rw [show prerr (Pl cap L4) (side x) x = 0 by simp [prerr, h1, h2, f4], if_neg (by decide), gate_pl]
  have hmv : pmove (side x) x L4 = pdel x (pdel (side x) L4) ++ [⟨x, s, s.length⟩] := by
    unfold pmove
    rw [f4, if_pos rfl]
  refine ⟨pmove (side x) x L4, ?_, ?_, ?_, ?_, ?_⟩
  · simp only [pwrite, wsteps, prow, e1, e2, e3, e4, e5, if_pos]
  · rw [hmv, pfnd_snoc, pfnd_del, if_pos rfl, if_pos rfl]; rfl
  · intro z hz1 hz2
    rw [hmv, pfnd_snoc, pfnd_del, if_neg hz1, pfnd_del, if_neg hz2, f4, if_neg hz2, if_neg (fun h => hz1 h.symm), Option.or_none]
  · rw [hmv, List.length_append]
    have := pdel_len x (pdel (side x) L4)
    simp
    omega
  · rw [hmv, ptot_snoc]
    have h5 := ptot_del x (pdel (side x) L4)
    have h6 := ptot_del (side x) L4
    rw [show (L.length + 2) * s.length = (L.length + 1) * s.length + s.length by rw [← Nat.succ_mul]]
    simp only
    omega
/-- A file that is whole is opened. -/
theorem open_pl {cap n : Nat} {x : List UInt8} {L : List Pf} {T : List (List UInt8)} (hx : Nm x) (hT : ∀ t ∈ T, t.length ≤ 65535) (hf : pfnd L x = some ⟨x, puts T, n⟩) :
    ∃ M, popen (Pl cap L) x = (Pl cap M, T, 0) ∧ (∃ n, pfnd M x = some ⟨x, puts T, n⟩) ∧ (∀ z, z ≠ x → pfnd M z = pfnd L z) ∧ M.length = L.length ∧ ptot M = ptot L := by
  have hrd : pread (Pl cap L) x = (puts T, 0) := by
    unfold pread
    rw [need_pl hx.b, hf]
    simp
  have hsy : psync (Pl cap L) x = (Pl cap (pset x fast L), 0) := by
    unfold psync
    rw [need_pl hx.b, hf]
    simp [gate_pl]
  refine ⟨pset x fast L, ?_, ⟨_, by rw [pfnd_fast, if_pos rfl, hf]; rfl⟩, fun z hz => by rw [pfnd_fast, if_neg hz], pset_len _ _ _, ptot_fast _ _⟩
  unfold popen popenF popenT
  rw [hx.b59, if_neg (by decide), hrd]
  simp only [allV_puts T hT]
  rw [if_neg (by simp), if_pos ⟨trivial, (puts_len T).symm⟩, hsy]
/-- Of a disk without bytes a log is opened, and has no texts. -/
theorem open_pl0 {cap : Nat} {x : List UInt8} {L : List Pf} (hx : Nm x) (hl : L.length ≤ 100) (h0 : ptot L = 0) :
    ∃ M, popen (Pl cap L) x = (Pl cap M, [], 0) ∧ (∃ n, pfnd M x = some ⟨x, puts [], n⟩) ∧ (∀ z, z ≠ x → z ≠ side x → pfnd M z = pfnd L z) ∧ M.length ≤ L.length + 1 ∧ ptot M = 0 := by
  cases hf : pfnd L x with
  | some f =>
    have hs : f.s = [] := by
      have := pfnd_le hf
      exact List.eq_nil_of_length_eq_zero (by omega)
    have hn := pfnd_name hf
    obtain ⟨fn, fs, n⟩ := f
    simp only at hs hn
    subst hs hn
    obtain ⟨M, h1, h2, h3, h4, h5⟩ := open_pl (cap := cap) (T := []) hx (fun t h => by cases h) hf
    exact ⟨M, h1, h2, fun z hz _ => h3 z hz, by omega, by omega⟩
  | none =>
    obtain ⟨M, h1, h2, h3, h4, h5⟩ := write_pl (cap := cap) (s := []) hx hl (by simp; omega)
    refine ⟨M, ?_, ⟨_, h2⟩, h3, h4, by simpa [h0] using h5⟩
    have hrd : pread (Pl cap L) x = ([], 3) := by
      unfold pread
      rw [need_pl hx.b, hf]
      simp
    unfold popen popenF popenT
    rw [hx.b59, if_neg (by decide), hrd]
    simp only [allV_nil, List.take_nil]
    rw [if_neg (by simp), h1]
    simp
/-- Texts are laid behind a log's file. -/
theorem append_pl {cap n : Nat} {x : List UInt8} {L : List Pf} {T U : List (List UInt8)} (hx : Nm x) (hU : ∀ t ∈ U, t.length ≤ 65535) (hf : pfnd L x = some ⟨x, puts T, n⟩) (hc : ptot L + (puts U).length ≤ cap) (many : Nat) :
    ∃ M, pappendL x (Pl cap L) many false U = ⟨Pl cap M, many + U.length, false, 0⟩ ∧ (∃ n, pfnd M x = some ⟨x, puts (T ++ U), n⟩) ∧ (∀ z, z ≠ x → pfnd M z = pfnd L z) ∧ M.length = L.length ∧ ptot M ≤ ptot L + L.length * (puts U).length := by
  have e1 : pappend (Pl cap L) x (puts U) = (Pl cap (pset x (grow (puts U)) L), 0) := by
    unfold pappend
    rw [need_pl hx.b, hf]
    simp only [Option.isNone_some, Bool.false_eq_true, if_false]
    rw [if_neg (by decide), if_neg (by show ¬ cap < ptot L + (puts U).length; omega), gate_pl]
  have f1 : pfnd (pset x (grow (puts U)) L) x = some ⟨x, puts T ++ puts U, n⟩ := by
    rw [pfnd_grow, if_pos rfl, hf]; rfl
  have e2 : psync (Pl cap (pset x (grow (puts U)) L)) x = (Pl cap (pset x fast (pset x (grow (puts U)) L)), 0) := by
    unfold psync
    rw [need_pl hx.b, f1]
    simp [gate_pl]
  refine ⟨pset x fast (pset x (grow (puts U)) L), ?_, ⟨_, by rw [pfnd_fast, if_pos rfl, f1, puts_append]; rfl⟩, fun z hz => ?_, by rw [pset_len, pset_len], by rw [ptot_fast]; exact ptot_grow _ _ _⟩
  · unfold pappendL pchange
    rw [if_neg (by decide), wide_none hU, if_neg (by decide)]
    have hp : play x (puts U) (Pl cap L) = (Pl cap (pset x fast (pset x (grow (puts U)) L)), 0) := by
      simp only [play, asteps, prow, e1, e2, if_pos]
    rw [hp]
    rfl
  · rw [pfnd_fast, if_neg hz, pfnd_grow, if_neg hz]
end Go.Proofs.YtilimfbjkgeciaaDoor
