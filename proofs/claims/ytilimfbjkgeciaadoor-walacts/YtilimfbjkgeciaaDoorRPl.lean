/-
  Texts in one: RNr RNw RAl. Conditions: as each theorem writes them.
-/
import Derived.Test.YtilimfbjkgeciaaDoorRRap
namespace Go.Proofs.YtilimfbjkgeciaaDoor
open Go.RowKit

/-- What the fuse counts no more is struck. -/
def nr (r : Pd) : Pd := ⟨r.cap, r.files, r.up, if r.up = true then r.left else 0, if r.up = true ∧ r.left ≠ 0 then r.keep else 0⟩
def nq (q : Pd × Int) : Pd × Int := (nr q.1, q.2)
theorem nr_gate (r : Pd) (a : Bool) (L : List Pf) (h : r.up = true) : pgate (nr r) a L = nq (rgate r a L) := by
  obtain ⟨cap, F, up, left, keep⟩ := r
  simp only at h
  subst h
  by_cases h0 : left = 0
  · subst h0
    simp [pgate, rgate, nr, nq]
  · by_cases h1 : 1 < left
    · have : left - 1 ≠ 0 := by omega
      simp [pgate, rgate, nr, nq, h0, h1, this]
    · by_cases h2 : a = true ∨ keep.tmod 2 ≠ 0
      · unfold pgate rgate nq nr
        simp only [h0, h1, if_true, if_false, ne_eq, not_false_eq_true, and_self]
        rw [if_pos h2, if_pos h2]
        simp
      · unfold pgate rgate nq nr
        simp only [h0, h1, if_true, if_false, ne_eq, not_false_eq_true, and_self]
        rw [if_neg h2, if_neg h2]
        simp [pcrash]
theorem nr_err (r : Pd) (s : List UInt8) : perr (nr r) s = perr r s := rfl
theorem nr_need (r : Pd) (s : List UInt8) : pneed (nr r) s = pneed r s := rfl
theorem nr_rerr (r : Pd) (s t : List UInt8) : prerr (nr r) s t = prerr r s t := rfl
theorem up_of {r : Pd} {s : List UInt8} (h : ¬ perr r s ≠ 0) : r.up = true := by
  cases e : r.up with
  | true => rfl
  | false => exact absurd (by unfold perr; rw [if_pos e]; decide) h
theorem up_need {r : Pd} {s : List UInt8} (h : ¬ pneed r s ≠ 0) : r.up = true := by
  cases e : r.up with
  | true => rfl
  | false => exact absurd (by unfold pneed perr; rw [if_pos e, if_pos (by decide)]; decide) h
theorem up_rerr {r : Pd} {s t : List UInt8} (h : ¬ prerr r s t ≠ 0) : r.up = true := by
  cases e : r.up with
  | true => rfl
  | false => exact absurd (by unfold prerr; rw [if_pos e]; decide) h
theorem nr_delete (r : Pd) (s : List UInt8) : pdelete (nr r) s = nq (rdelete r s) := by
  unfold pdelete rdelete
  rw [nr_need]
  by_cases h : pneed r s ≠ 0
  · rw [if_pos h, if_pos h]; rfl
  · rw [if_neg h, if_neg h]; exact nr_gate r _ _ (up_need h)
theorem nr_sync (r : Pd) (s : List UInt8) : psync (nr r) s = nq (rsync r s) := by
  unfold psync rsync
  rw [nr_need]
  by_cases h : pneed r s ≠ 0
  · rw [if_pos h, if_pos h]; rfl
  · rw [if_neg h, if_neg h]; exact nr_gate r _ _ (up_need h)
theorem nr_append (r : Pd) (s t : List UInt8) : pappend (nr r) s t = nq (rappend r s t) := by
  unfold pappend rappend
  rw [nr_need]
  by_cases h : pneed r s ≠ 0
  · rw [if_pos h, if_pos h]; rfl
  · rw [if_neg h, if_neg h]
    show (if r.cap < ptot r.files + t.length then _ else _) = nq (if r.cap < ptot r.files + t.length then _ else _)
    by_cases h2 : r.cap < ptot r.files + t.length
    · rw [if_pos h2, if_pos h2]; rfl
    · rw [if_neg h2, if_neg h2]; exact nr_gate r _ _ (up_need h)
theorem nr_create (r : Pd) (s : List UInt8) : pcreate (nr r) s = nq (rcreate r s) := by
  unfold pcreate rcreate
  rw [nr_err]
  by_cases h : perr r s ≠ 0
  · rw [if_pos h, if_pos h]; rfl
  · rw [if_neg h, if_neg h]
    show (if (pfnd r.files s).isSome = true then _ else if 200 ≤ r.files.length then _ else _) = nq (if (pfnd r.files s).isSome = true then _ else if 200 ≤ r.files.length then _ else _)
    by_cases h2 : (pfnd r.files s).isSome = true
    · rw [if_pos h2, if_pos h2]; rfl
    · rw [if_neg h2, if_neg h2]
      by_cases h3 : 200 ≤ r.files.length
      · rw [if_pos h3, if_pos h3]; rfl
      · rw [if_neg h3, if_neg h3]; exact nr_gate r _ _ (up_of h)
theorem nr_rename (r : Pd) (s t : List UInt8) : prename (nr r) s t = nq (rrename r s t) := by
  unfold prename rrename
  rw [nr_rerr]
  by_cases h : prerr r s t ≠ 0
  · rw [if_pos h, if_pos h]; rfl
  · rw [if_neg h, if_neg h]; exact nr_gate r _ _ (up_rerr h)
end Go.Proofs.YtilimfbjkgeciaaDoor

namespace Go.Proofs.YtilimfbjkgeciaaDoor
open Go.RowKit

theorem row_one (f : Pd → Pd × Int) (p : Pd) : prow [f] p = f p := by
  unfold prow prow
  by_cases h : (f p).2 = 0
  · rw [if_pos h]
    exact Prod.ext rfl h.symm
  · rw [if_neg h]
theorem row_then {f : Pd → Pd × Int} {g : Pd → Pd × Int} {fs : List (Pd → Pd × Int)} {h : Pd → Pd × Int} {r : Pd} (hf : f (nr r) = nq (g r)) (hfs : ∀ q, prow fs (nr q) = nq (h q)) : prow (f :: fs) (nr r) = nq (rthen (g r) h) := by
  show (if (f (nr r)).2 = 0 then prow fs (f (nr r)).1 else f (nr r)) = _
  rw [hf]
  unfold rthen
  by_cases e : (g r).2 = 0
  · rw [if_pos (show (nq (g r)).2 = 0 from e), if_pos e]
    exact hfs _
  · rw [if_neg (show ¬ (nq (g r)).2 = 0 from e), if_neg e]
theorem then_assoc (a : Pd × Int) (f g : Pd → Pd × Int) : rthen (rthen a f) g = rthen a fun d => rthen (f d) g := by
  unfold rthen
  by_cases e : a.2 = 0
  · simp [e]
  · simp [e]
theorem nr_write (x s : List UInt8) (r : Pd) : pwrite x s (nr r) = nq (rwrite x s r) := by
  have key : ∀ q, prow [fun p => pcreate p (side x), fun p => pappend p (side x) s, fun p => psync p (side x), fun p => prename p (side x) x] (nr q)
      = nq (rthen (rthen (rthen (rcreate q (side x)) fun d => rappend d (side x) s) fun d => rsync d (side x)) fun d => rrename d (side x) x) := fun q => by
    rw [then_assoc, then_assoc]
    refine row_then (g := fun r => rcreate r (side x)) (nr_create q _) fun q => ?_
    refine row_then (g := fun r => rappend r (side x) s) (nr_append q _ _) fun q => ?_
    refine row_then (g := fun r => rsync r (side x)) (nr_sync q _) fun q => ?_
    rw [row_one]
    exact nr_rename q _ _
  show (if (pclear (side x) (nr r)).2 = 0 then prow _ (pclear (side x) (nr r)).1 else pclear (side x) (nr r)) = _
  unfold rwrite pclear
  rw [nr_delete]
  generalize rdelete r (side x) = D
  obtain ⟨d, e⟩ := D
  by_cases e3 : e = 3
  · subst e3
    rw [if_neg (show ¬ ((3 : Int) ≠ 0 ∧ (3 : Int) ≠ 3) by decide)]
    exact key d
  · by_cases e0 : e = 0
    · subst e0
      rw [if_neg (show ¬ ((0 : Int) ≠ 0 ∧ (0 : Int) ≠ 3) by decide)]
      exact key d
    · rw [if_pos (show e ≠ 0 ∧ e ≠ 3 from ⟨e0, e3⟩)]
      simp [nq, e3, e0]
theorem nr_play (x s : List UInt8) (r : Pd) : play x s (nr r) = nq (rputs x s r) := by
  refine row_then (g := fun r => rappend r x s) (nr_append r _ _) fun q => ?_
  rw [row_one]
  exact nr_sync q _
theorem nr_crash (r : Pd) (keep : Int) : nr (rcrash keep r) = pcrash keep (nr r) := by
  simp [nr, rcrash, pcrash]
theorem nr_on (r : Pd) : nr ⟨r.cap, r.files, true, 0, r.keep⟩ = pon (nr r) := by
  simp [nr, pon]
theorem nr_fuse (r : Pd) (n keep : Int) : nr ⟨r.cap, r.files, r.up, n.toNat, keep⟩ = pfuse (nr r) n keep := by
  obtain ⟨cap, F, up, left, k⟩ := r
  cases up with
  | false => simp [nr, pfuse]
  | true =>
    by_cases h : n < 1
    · have : n.toNat = 0 := by omega
      simp [nr, pfuse, h, this]
    · have : ¬ n.toNat = 0 := by omega
      simp [nr, pfuse, h, this]
end Go.Proofs.YtilimfbjkgeciaaDoor

namespace Go.Proofs.YtilimfbjkgeciaaDoor
open Go.RowKit

def ropenF (r : Pd) (x : List UInt8) : Pd × Int :=
  if (pread r x).2 = 0 ∧ took (popenT r x) = (pread r x).1.length then rsync r x else rwrite x ((pread r x).1.take (took (popenT r x))) r
/-- Open of the document's own, as plain data: the disk, the texts, the error. -/
def ropen (r : Pd) (x : List UInt8) : Pd × List (List UInt8) × Int :=
  if bad59 x = true then (r, [], 1)
  else if (pread r x).2 ≠ 0 ∧ (pread r x).2 ≠ 3 then (r, [], (pread r x).2)
  else ((ropenF r x).1, popenT r x, (ropenF r x).2)
theorem nr_open (r : Pd) (x : List UInt8) : popen (nr r) x = (nr (ropen r x).1, (ropen r x).2) := by
  have e1 : pread (nr r) x = pread r x := rfl
  have e2 : popenT (nr r) x = popenT r x := rfl
  have e3 : popenF (nr r) x = nq (ropenF r x) := by
    unfold popenF ropenF
    rw [e1, e2]
    split
    · exact nr_sync r x
    · exact nr_write x _ r
  unfold popen ropen
  rw [e1, e2, e3]
  split
  · rfl
  split
  · rfl
  · rfl
theorem good_then {x : List UInt8} {a : Pd × Int} {f : Pd → Pd × Int} (h : Good x a.1) (hf : ∀ r, Good x r → Good x (f r).1) : Good x (rthen a f).1 := by
  unfold rthen
  split
  · exact hf _ h
  · exact h
theorem good_rwrite {x : List UInt8} {r : Pd} (h : Good x r) (s : List UInt8) : Good x (rwrite x s r).1 := by
  have h1 := good_delete h (side x) (.inr rfl)
  unfold rwrite
  split
  · exact h1
  · exact good_then (good_then (good_then (good_create h1) fun _ hr => good_append hr _ _) fun _ hr => good_sync hr _) fun _ hr => good_rename hr
theorem good_rputs {x : List UInt8} {r : Pd} (h : Good x r) (s : List UInt8) : Good x (rputs x s r).1 :=
  good_then (good_append h _ _) fun _ hr => good_sync hr _
theorem good_ropen {x : List UInt8} {r : Pd} (h : Good x r) : Good x (ropen r x).1 := by
  unfold ropen
  split
  · exact h
  split
  · exact h
  · show Good x (ropenF r x).1
    unfold ropenF
    split
    · exact good_sync h x
    · exact good_rwrite h _
theorem good_rchange {x : List UInt8} {g : List UInt8 → Pd → Pd × Int} {r : Pd} (h : Good x r) (hg : ∀ s, Good x (g s r).1) (m : Int) (dd : Bool) (l : List (List UInt8)) (now : Int) : Good x (rchange g r m dd l now).r := by
  unfold rchange
  split
  · exact h
  split
  · exact h
  · exact hg _
theorem good_rcrash {x : List UInt8} {r : Pd} (h : Good x r) (keep : Int) : Good x (rcrash keep r) := by
  obtain ⟨h1, hc, hl, ht⟩ := h
  refine ⟨fin_map h1 _, hc, hl, ?_⟩
  show Two x (r.files.map (pcr keep))
  unfold Two
  rw [nms_map]
  exact ht
theorem nr_change {f g : List UInt8 → Pd → Pd × Int} (r : Pd) (hfg : ∀ s, f s (nr r) = nq (g s r)) (many : Nat) (off : Bool) (l : List (List UInt8)) (now : Nat) :
    (pchange f (nr r) many off l now).p = nr (rchange g r many off l now).r ∧ ((pchange f (nr r) many off l now).many : Int) = (rchange g r many off l now).m ∧ (pchange f (nr r) many off l now).off = (rchange g r many off l now).d ∧ (pchange f (nr r) many off l now).e = (rchange g r many off l now).e := by
  unfold pchange rchange jS
  cases off with
  | true => exact ⟨rfl, rfl, rfl, rfl⟩
  | false =>
    simp only [Bool.false_eq_true, if_false]
    by_cases hw : l.any wideT = true
    · simp only [hw, if_true]
      exact ⟨trivial, trivial, trivial, trivial⟩
    simp only [hw, hfg, Bool.false_eq_true, if_false]
    generalize g (puts l) r = q
    obtain ⟨q, e⟩ := q
    by_cases h0 : e = 0
    · subst h0
      exact ⟨rfl, rfl, rfl, rfl⟩
    by_cases h2 : e = 2
    · subst h2
      exact ⟨rfl, rfl, rfl, rfl⟩
    · simp [nq, tM, tD, h0, h2]
theorem nr_log (x : List UInt8) (r : Pd) (many : Nat) (off : Bool) (l : List (List UInt8)) :
    ∃ (m : Nat) (o : Bool) (e : Int), pappendL x (nr r) many off l = ⟨nr (rchange (rputs x) r many off l (many + l.length)).r, m, o, e⟩ ∧ (rchange (rputs x) r many off l (many + l.length)).m = m ∧ (rchange (rputs x) r many off l (many + l.length)).d = o ∧ (rchange (rputs x) r many off l (many + l.length)).e = e := by
  obtain ⟨h1, h2, h3, h4⟩ := nr_change (g := rputs x) r (fun s => nr_play x s r) many off l (many + l.length)
  rw [show ((many + l.length : Nat) : Int) = (many : Int) + l.length by omega] at h1 h2 h3 h4
  exact ⟨_, _, _, by unfold pappendL; rw [← h1], h2.symm, h3.symm, h4.symm⟩
theorem nr_reset (x : List UInt8) (r : Pd) (many : Nat) (off : Bool) (l : List (List UInt8)) :
    ∃ (m : Nat) (o : Bool) (e : Int), presetL x (nr r) many off l = ⟨nr (rchange (rwrite x) r many off l l.length).r, m, o, e⟩ ∧ (rchange (rwrite x) r many off l l.length).m = m ∧ (rchange (rwrite x) r many off l l.length).d = o ∧ (rchange (rwrite x) r many off l l.length).e = e := by
  obtain ⟨h1, h2, h3, h4⟩ := nr_change (g := rwrite x) r (fun s => nr_write x s r) many off l l.length
  exact ⟨_, _, _, by unfold presetL; rw [← h1], h2.symm, h3.symm, h4.symm⟩
theorem rchange_many {g : List UInt8 → Pd → Pd × Int} {r : Pd} {many : Nat} {off : Bool} {l : List (List UInt8)} {now : Int} {m : Nat} (h : (rchange g r many off l now).m = m) (b : Nat) (h1 : many ≤ b) (h2 : now ≤ b) : m ≤ b := by
  unfold rchange at h
  split at h
  · have : (many : Int) = m := h
    omega
  split at h
  · have : (many : Int) = m := h
    omega
  · have h : tM many (g (jS l) r).2 now = m := h
    unfold tM at h
    split at h <;> omega
end Go.Proofs.YtilimfbjkgeciaaDoor
