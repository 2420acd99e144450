/-
  Texts in one: WPd WAb. Conditions: as each theorem writes them.
-/
import Derived.Test.YtilimfbjkgeciaaDoorVFind
import Derived.Test.YtilimfbjkgeciaaDoorVFz
namespace Go.Proofs.YtilimfbjkgeciaaDoor
open Go.RowKit

/-- A file as plain data: its name, its bytes, how many of them are synced. -/
structure Pf where
  name : List UInt8
  s : List UInt8
  n : Nat
/-- A disk as plain data; left is 0 where no fuse is laid, or where it is not up. -/
structure Pd where
  cap : Nat
  files : List Pf
  up : Bool
  left : Nat
  keep : Int

def pfnd (L : List Pf) (s : List UInt8) : Option Pf := L.find? fun f => f.name == s
def pdel (s : List UInt8) (L : List Pf) : List Pf := L.filter fun f => f.name != s
def ptot (L : List Pf) : Nat := (L.map fun f => f.s.length).sum
def pset (s : List UInt8) (g : Pf → Pf) (L : List Pf) : List Pf := L.map fun f => if f.name = s then g f else f
def pstay (keep : Int) (f : Pf) : Nat := if 0 < keep then f.n + keep.toNat % (f.s.length - f.n + 1) else f.n
def pcr (keep : Int) (f : Pf) : Pf := ⟨f.name, f.s.take (pstay keep f), pstay keep f⟩
def pcrash (keep : Int) (p : Pd) : Pd := ⟨p.cap, p.files.map (pcr keep), false, 0, 0⟩
/-- What comes of a call that has no error of its own, and leaves the files L. -/
def pgate (p : Pd) (always : Bool) (L : List Pf) : Pd × Int :=
  if p.left = 0 then (⟨p.cap, L, p.up, p.left, p.keep⟩, 0)
  else if 1 < p.left then (⟨p.cap, L, p.up, p.left - 1, p.keep⟩, 0)
  else if always = true ∨ p.keep.tmod 2 ≠ 0 then (⟨p.cap, L.map (pcr p.keep), false, 0, 0⟩, 6)
  else (pcrash p.keep p, 6)
def perr (p : Pd) (s : List UInt8) : Int := if p.up = false then 6 else if bad s = true then 1 else 0
def pneed (p : Pd) (s : List UInt8) : Int := if perr p s ≠ 0 then perr p s else if (pfnd p.files s).isNone = true then 3 else 0
def pcreate (p : Pd) (s : List UInt8) : Pd × Int :=
  if perr p s ≠ 0 then (p, perr p s) else if (pfnd p.files s).isSome = true then (p, 4) else if 200 ≤ p.files.length then (p, 2)
  else pgate p false (p.files ++ [⟨s, [], 0⟩])
def grow (t : List UInt8) (f : Pf) : Pf := ⟨f.name, f.s ++ t, f.n⟩
def fast (f : Pf) : Pf := ⟨f.name, f.s, f.s.length⟩
def pappend (p : Pd) (s t : List UInt8) : Pd × Int :=
  if pneed p s ≠ 0 then (p, pneed p s) else if p.cap < ptot p.files + t.length then (p, 2) else pgate p true (pset s (grow t) p.files)
def psync (p : Pd) (s : List UInt8) : Pd × Int :=
  if pneed p s ≠ 0 then (p, pneed p s) else pgate p false (pset s fast p.files)
def pdelete (p : Pd) (s : List UInt8) : Pd × Int :=
  if pneed p s ≠ 0 then (p, pneed p s) else pgate p false (pdel s p.files)
/-- The files when one has another name. -/
def pmove (s t : List UInt8) (L : List Pf) : List Pf :=
  match pfnd L s with
  | some f => pdel t (pdel s L) ++ [⟨t, f.s, f.n⟩]
  | none => L
def prerr (p : Pd) (s t : List UInt8) : Int := if p.up = false then 6 else if (bad s || bad t) = true then 1 else if (pfnd p.files s).isNone = true then 3 else 0
def prename (p : Pd) (s t : List UInt8) : Pd × Int :=
  if prerr p s t ≠ 0 then (p, prerr p s t) else pgate p false (pmove s t p.files)
def pread (p : Pd) (s : List UInt8) : List UInt8 × Int :=
  if pneed p s ≠ 0 then ([], pneed p s) else (match pfnd p.files s with | some f => f.s | none => [], 0)
def pon (p : Pd) : Pd := ⟨p.cap, p.files, true, 0, 0⟩
def pfuse (p : Pd) (n keep : Int) : Pd := if p.up = false then p else if n < 1 then ⟨p.cap, p.files, p.up, 0, 0⟩ else ⟨p.cap, p.files, p.up, n.toNat, keep⟩

/-- Steps in a row, up to the first error. -/
def prow : List (Pd → Pd × Int) → Pd → Pd × Int
  | [], p => (p, 0)
  | f :: fs, p => if (f p).2 = 0 then prow fs (f p).1 else f p
/-- A file is deleted if it is there. -/
def pclear (s : List UInt8) (p : Pd) : Pd × Int := if (pdelete p s).2 = 3 then ((pdelete p s).1, 0) else pdelete p s
def side (x : List UInt8) : List UInt8 := x ++ [43]
def wsteps (x s : List UInt8) : List (Pd → Pd × Int) := [pclear (side x), fun p => pcreate p (side x), fun p => pappend p (side x) s, fun p => psync p (side x), fun p => prename p (side x) x]
/-- A file is written. -/
def pwrite (x s : List UInt8) (p : Pd) : Pd × Int := prow (wsteps x s) p
def asteps (x s : List UInt8) : List (Pd → Pd × Int) := [fun p => pappend p x s, fun p => psync p x]
/-- A text is laid behind a file. -/
def play (x s : List UInt8) (p : Pd) : Pd × Int := prow (asteps x s) p
end Go.Proofs.YtilimfbjkgeciaaDoor

namespace Go.Proofs.YtilimfbjkgeciaaDoor
set_option maxRecDepth 100000
open Go.RowKit Go.Maps

def st (f : Fl) : Pf := ⟨f.name, f.s, f.n⟩
/-- A disk as plain data. -/
def ab (k : Dsk) : Pd :=
  ⟨k.cap, k.files.map st, k.up, if k.up = true then (match k.fuse with | some z => z.n | none => 0) else 0, if k.up = true then (match k.fuse with | some z => z.keep | none => 0) else 0⟩
theorem st_fnd (L : List Fl) (s : List UInt8) : pfnd (L.map st) s = (fnd L s).map st := by
  unfold pfnd fnd
  rw [List.find?_map]
  rfl
theorem st_del (L : List Fl) (s : List UInt8) : (del s L).map st = pdel s (L.map st) := by
  unfold del pdel
  rw [List.filter_map]
  rfl
theorem st_tot (L : List Fl) : ptot (L.map st) = total L := by
  unfold ptot total
  rw [List.map_map]
  rfl
theorem st_cr (L : List Fl) (keep : Int) : (L.map (crF keep)).map st = (L.map st).map (pcr keep) := by
  rw [List.map_map, List.map_map]
  rfl
theorem st_set {L : List Fl} (hb : (L.map (·.blk)).Nodup) (hn : (L.map (·.name)).Nodup) {f : Fl} (hf : f ∈ L) (s : List UInt8) (n : Nat) (g : Pf → Pf) (hg : g (st f) = ⟨f.name, s, n⟩) :
    (setF f.blk s n L).map st = pset f.name g (L.map st) := by
  unfold setF upd pset
  rw [List.map_map, List.map_map]
  apply List.map_congr_left
  intro y hy
  simp only [Function.comp]
  by_cases e : y.blk = f.blk
  · obtain rfl := blk_eq hb hy hf e
    rw [if_pos rfl, if_pos (show (st y).name = y.name from rfl), hg]
    rfl
  · rw [if_neg e, if_neg (fun e2 => e (by rw [name_eq hn hy hf e2]))]

theorem ab_open {k : Dsk} (hu : k.up = true) (hz : k.fuse = none) (L : List Fl) (a : Bool) : (ab (withF k L), (0 : Int)) = pgate (ab k) a (L.map st) := by
  unfold pgate ab withF
  simp [hu, hz]
theorem ab_gate {k : Dsk} {z : Fz} (hu : k.up = true) (hz : k.fuse = some z) (hn : 1 ≤ z.n) {a : Bool} {R : Dsk → Dsk → Prop} {x : Int} {k' : Dsk} (h : FzR k z a R x k') (L : List Pf)
    (hR : ∀ k0 k1, (k0 = k ∨ k0 = fuseZ k (decZ z)) → R k0 k1 → ∃ M, k1 = withF k0 M ∧ M.map st = L) : (ab k', x) = pgate (ab k) a L ∧ k'.d = k.d := by
  have hl : (ab k).left = z.n := by unfold ab; simp [hu, hz]
  have hk : (ab k).keep = z.keep := by unfold ab; simp [hu, hz]
  have hup : (ab k).up = true := by unfold ab; simp [hu]
  unfold pgate
  rw [hl, hk, hup, if_neg (by omega)]
  rcases h with ⟨h1, rfl, r⟩ | ⟨h1, rfl, h2, k1, r, rfl⟩ | ⟨h1, rfl, rfl, h2, rfl⟩
  · obtain ⟨M, rfl, rfl⟩ := hR _ _ (.inr rfl) r
    rw [if_pos h1]
    refine ⟨?_, rfl⟩
    simp [ab, withF, fuseZ, decZ, hu]
  · obtain ⟨M, rfl, rfl⟩ := hR _ _ (.inl rfl) r
    rw [if_neg (by omega), if_pos h2]
    refine ⟨?_, rfl⟩
    rw [← st_cr]
    simp [ab, withF, crashK]
  · rw [if_neg (by omega), if_neg (by simp [h2])]
    refine ⟨?_, rfl⟩
    unfold pcrash
    simp [ab, crashK, List.map_map, Function.comp_def]
    intros
    rfl

/-- What a call of a disk comes to. -/
def Post (k : Dsk) (w : World) (r : Pd × Int) (e : Ending) (w' : World) : Prop :=
  e = .returned (.int .i64 r.2) ∧ ∃ k', ab k' = r.1 ∧ k'.d = k.d ∧ Dk w' k' ∧ Kept k k' w w'
theorem post_old {k : Dsk} {w w' : World} {e : Ending} {x : Int} {r : Pd × Int} (h : Dk w k) (hr : r = (ab k, x)) (he : e = .returned (.int .i64 x)) (o : Old w w') : Post k w r e w' := by
  subst hr
  exact ⟨he, k, rfl, rfl, h.old o, Kept.of_old o⟩
theorem post_to {k k' : Dsk} {w w' : World} {e : Ending} {x : Int} {r : Pd × Int} (hr : (ab k', x) = r) (hd : k'.d = k.d) (he : e = .returned (.int .i64 x)) (h : Dk w' k') (o : Kept k k' w w') : Post k w r e w' := by
  subst hr
  exact ⟨he, k', rfl, hd, h, o⟩

theorem post_open {k : Dsk} {w w' : World} {e : Ending} (hu : k.up = true) (hz : k.fuse = none) (M : List Fl) {L : List Pf} {a : Bool} (hM : M.map st = L) (he : e = .returned (.int .i64 0)) (h : Dk w' (withF k M)) (o : Kept k (withF k M) w w') : Post k w (pgate (ab k) a L) e w' := by
  subst hM
  exact post_to (k' := withF k M) (ab_open hu hz M a) rfl he h o

theorem ab_err (k : Dsk) (s : List UInt8) : perr (ab k) s = rdyE k [s] := by
  unfold perr rdyE ab
  simp
theorem ab_need (k : Dsk) (s : List UInt8) : pneed (ab k) s = fndE k s := by
  unfold pneed fndE
  rw [ab_err]
  show (if rdyE k [s] ≠ 0 then rdyE k [s] else if (pfnd (k.files.map st) s).isNone = true then 3 else 0) = _
  rw [st_fnd]
  simp
theorem err_no {k : Dsk} {s : List UInt8} (h : ¬ rdyE k [s] ≠ 0) : k.up = true ∧ bad s = false := by
  unfold rdyE at h
  cases hu : k.up <;> cases hb : bad s <;> simp [hu, hb] at h ⊢
theorem gate_one {w : World} {k : Dsk} {z : Fz} (h : Dk w k) (hz : k.fuse = some z) : 1 ≤ z.n := by
  have hg := h.gate
  rw [hz] at hg
  exact hg.1

theorem create_u (k : Dsk) (s : List UInt8) (hs : s.length ≤ 100000) (w : World) (h : Dk w k) :
    Calls Tryd.prog 55 #[ptr k.d, .string (B s)] w (Post k w (pcreate (ab k) s)) := by
  unfold pcreate
  rw [ab_err]
  by_cases h1 : rdyE k [s] ≠ 0
  · rw [if_pos h1]
    exact (create_rdy k s hs w h h1).mono fun _ _ ⟨e1, o⟩ => post_old h rfl e1 o
  rw [if_neg h1]
  obtain ⟨hu, hb⟩ := err_no h1
  have hfs : pfnd (ab k).files s = (fnd k.files s).map st := st_fnd _ _
  rw [hfs]
  cases hf : fnd k.files s with
  | some f =>
    rw [if_pos (by rfl)]
    exact (create_twice k s hs w h hu hb f hf).mono fun _ _ ⟨e1, o⟩ => post_old h rfl e1 o
  | none =>
    rw [if_neg (by simp)]
    have hln : (ab k).files.length = k.files.length := by simp [ab]
    rw [hln]
    by_cases hl : 200 ≤ k.files.length
    · rw [if_pos hl]
      exact (create_full k s hs w h hu hb hf hl).mono fun _ _ ⟨e1, o⟩ => post_old h rfl e1 o
    rw [if_neg hl]
    have hput : ∀ b, (put ⟨s, b, [], 0⟩ k.files).map st = (ab k).files ++ [⟨s, [], 0⟩] := by
      intro b
      unfold put
      rw [show del s k.files = k.files from del_none hf, List.map_append]
      rfl
    cases hz : k.fuse with
    | none =>
      refine (create_ok k s w h hz hu hb hf (by omega)).mono fun _ _ ⟨e1, b, h1, h2⟩ => post_open hu hz _ (hput b) e1 h1 h2
    | some z =>
      refine (create_fz k s w h z hz hu hb hf (by omega)).mono fun _ _ ⟨x, k', e1, hr, h1, h2⟩ => ?_
      obtain ⟨g1, g2⟩ := ab_gate hu hz (gate_one h hz) hr ((ab k).files ++ [⟨s, [], 0⟩]) (fun k0 k1 ho hr => by
        obtain ⟨b, rfl⟩ := hr
        refine ⟨_, rfl, ?_⟩
        rcases ho with rfl | rfl <;> exact hput b)
      exact post_to g1 g2 e1 h1 h2

theorem need_no {k : Dsk} {s : List UInt8} (h : ¬ fndE k s ≠ 0) : ∃ f, fnd k.files s = some f ∧ k.up = true ∧ bad s = false := by
  obtain ⟨f, h1, _, h3, h4⟩ := fndE_ok (by simpa using h)
  exact ⟨f, h1, h3, h4⟩
theorem append_u (k : Dsk) (s t : List UInt8) (hs : s.length ≤ 100000) (ht : t.length ≤ 1000000000000) (w : World) (h : Dk w k) :
    Calls Tryd.prog 40 #[ptr k.d, .string (B s), .string (B t)] w (Post k w (pappend (ab k) s t)) := by
  unfold pappend
  rw [ab_need]
  by_cases h1 : fndE k s ≠ 0
  · rw [if_pos h1]
    exact (append_no k s t hs w h h1).mono fun _ _ ⟨e1, o⟩ => post_old h rfl e1 o
  rw [if_neg h1]
  obtain ⟨f, hf, hu, hb⟩ := need_no h1
  have htot : ptot (ab k).files = total k.files := st_tot _
  have hcap : (ab k).cap = k.cap := rfl
  rw [htot, hcap]
  by_cases hl : k.cap < total k.files + t.length
  · rw [if_pos hl]
    exact (append_full k s t ht w h hu hb f hf hl).mono fun _ _ ⟨e1, o⟩ => post_old h rfl e1 o
  rw [if_neg hl]
  have hset : (setF f.blk (f.s ++ t) f.n k.files).map st = pset s (grow t) (ab k).files := by
    rw [st_set h.ok.blks h.ok.names (fnd_mem hf) (f.s ++ t) f.n (grow t) rfl, fnd_name hf]
    rfl
  cases hz : k.fuse with
  | none =>
    refine (append_ok k s t w h hz hu hb f hf (by omega)).mono fun _ _ ⟨e1, h1, h2⟩ => post_open hu hz _ hset e1 h1 h2
  | some z =>
    refine (append_fz k s t w h z hz hu hb f hf (by omega)).mono fun _ _ ⟨x, k', e1, hr, h1, h2⟩ => ?_
    obtain ⟨g1, g2⟩ := ab_gate hu hz (gate_one h hz) hr (pset s (grow t) (ab k).files) (fun k0 k1 ho hr => by
      subst hr
      refine ⟨_, rfl, ?_⟩
      rcases ho with rfl | rfl <;> exact hset)
    exact post_to g1 g2 e1 h1 h2

theorem sync_u (k : Dsk) (s : List UInt8) (hs : s.length ≤ 100000) (w : World) (h : Dk w k) :
    Calls Tryd.prog 30 #[ptr k.d, .string (B s)] w (Post k w (psync (ab k) s)) := by
  unfold psync
  rw [ab_need]
  by_cases h1 : fndE k s ≠ 0
  · rw [if_pos h1]
    exact (sync_no k s hs w h h1).mono fun _ _ ⟨e1, o⟩ => post_old h rfl e1 o
  rw [if_neg h1]
  obtain ⟨f, hf, hu, hb⟩ := need_no h1
  have hset : (setF f.blk f.s f.s.length k.files).map st = pset s fast (ab k).files := by
    rw [st_set h.ok.blks h.ok.names (fnd_mem hf) f.s f.s.length fast rfl, fnd_name hf]
    rfl
  cases hz : k.fuse with
  | none =>
    refine (sync_ok k s w h hz hu hb f hf).mono fun _ _ ⟨e1, h1, h2⟩ => post_open hu hz _ hset e1 h1 h2
  | some z =>
    refine (sync_fz k s w h z hz hu hb f hf).mono fun _ _ ⟨x, k', e1, hr, h1, h2⟩ => ?_
    obtain ⟨g1, g2⟩ := ab_gate hu hz (gate_one h hz) hr (pset s fast (ab k).files) (fun k0 k1 ho hr => by
      subst hr
      refine ⟨_, rfl, ?_⟩
      rcases ho with rfl | rfl <;> exact hset)
    exact post_to g1 g2 e1 h1 h2

theorem delete_u (k : Dsk) (s : List UInt8) (hs : s.length ≤ 100000) (w : World) (h : Dk w k) :
    Calls Tryd.prog 53 #[ptr k.d, .string (B s)] w (Post k w (pdelete (ab k) s)) := by
  unfold pdelete
  rw [ab_need]
  by_cases h1 : fndE k s ≠ 0
  · rw [if_pos h1]
    exact (delete_no k s hs w h h1).mono fun _ _ ⟨e1, o⟩ => post_old h rfl e1 o
  rw [if_neg h1]
  obtain ⟨f, hf, hu, hb⟩ := need_no h1
  have hset : (del s k.files).map st = pdel s (ab k).files := st_del _ _
  cases hz : k.fuse with
  | none =>
    refine (delete_ok k s w h hz hu hb f hf).mono fun _ _ ⟨e1, h1, h2⟩ => post_open hu hz _ hset e1 h1 h2
  | some z =>
    refine (delete_fz k s w h z hz hu hb f hf).mono fun _ _ ⟨x, k', e1, hr, h1, h2⟩ => ?_
    obtain ⟨g1, g2⟩ := ab_gate hu hz (gate_one h hz) hr (pdel s (ab k).files) (fun k0 k1 ho hr => by
      subst hr
      refine ⟨_, rfl, ?_⟩
      rcases ho with rfl | rfl <;> exact hset)
    exact post_to g1 g2 e1 h1 h2

theorem ab_ren (k : Dsk) (s t : List UInt8) : prerr (ab k) s t = renE k s t := by
  unfold prerr renE
  have h1 : rdyE k [s, t] = if k.up = false then 6 else if (bad s || bad t) = true then 1 else 0 := by
    unfold rdyE
    simp
  have h2 := ab_need k s
  unfold pneed at h2
  rw [ab_err] at h2
  have h3 : rdyE k [s] = if k.up = false then 6 else if bad s = true then 1 else 0 := by
    unfold rdyE
    simp
  rw [← h2, h1, h3]
  show (if k.up = false then (6 : Int) else _) = _
  cases k.up <;> cases bad s <;> cases bad t <;> simp
theorem rename_u (k : Dsk) (s t : List UInt8) (hs : s.length ≤ 100000) (ht : t.length ≤ 100000) (w : World) (h : Dk w k) :
    Calls Tryd.prog 59 #[ptr k.d, .string (B s), .string (B t)] w (Post k w (prename (ab k) s t)) := by
  unfold prename
  rw [ab_ren]
  by_cases h1 : renE k s t ≠ 0
  · rw [if_pos h1]
    exact (rename_no k s t hs ht w h h1).mono fun _ _ ⟨e1, o⟩ => post_old h rfl e1 o
  rw [if_neg h1]
  obtain ⟨f, hf, hu, hb, hbt⟩ := renE_ok (by simpa using h1)
  have hset : (put (toN f t) (del f.name k.files)).map st = pmove s t (ab k).files := by
    unfold put pmove
    rw [show pfnd (ab k).files s = some (st f) by show pfnd (k.files.map st) s = _; rw [st_fnd, hf]; rfl]
    rw [List.map_append, st_del, st_del, fnd_name hf]
    rfl
  cases hz : k.fuse with
  | none =>
    refine (rename_ok k s t w h hz hu hb hbt f hf).mono fun _ _ ⟨e1, h1, h2⟩ => post_open hu hz _ hset e1 h1 h2
  | some z =>
    refine (rename_fz k s t w h z hz hu hb hbt f hf).mono fun _ _ ⟨x, k', e1, hr, h1, h2⟩ => ?_
    obtain ⟨g1, g2⟩ := ab_gate hu hz (gate_one h hz) hr (pmove s t (ab k).files) (fun k0 k1 ho hr => by
      subst hr
      refine ⟨_, rfl, ?_⟩
      rcases ho with rfl | rfl <;> exact hset)
    exact post_to g1 g2 e1 h1 h2

theorem read_u (k : Dsk) (s : List UInt8) (hs : s.length ≤ 100000) (w : World) (h : Dk w k) :
    Calls Tryd.prog 28 #[ptr k.d, .string (B s)] w fun e w' => e = .returned (.tuple #[.string (B (pread (ab k) s).1), .int .i64 (pread (ab k) s).2]) ∧ Old w w' := by
  unfold pread
  rw [ab_need]
  by_cases h1 : fndE k s ≠ 0
  · rw [if_pos h1]
    exact read_no k s hs w h h1
  rw [if_neg h1]
  obtain ⟨f, hf, hu, hb⟩ := need_no h1
  rw [show pfnd (ab k).files s = some (st f) by show pfnd (k.files.map st) s = _; rw [st_fnd, hf]; rfl]
  exact read_ok k s hs w h f hu hb hf

/-- What a call of a disk that answers nothing comes to. -/
def PostV (k : Dsk) (w : World) (r : Pd) (e : Ending) (w' : World) : Prop :=
  e = .returned (.tuple #[]) ∧ ∃ k', ab k' = r ∧ k'.d = k.d ∧ Dk w' k' ∧ Kept k k' w w'
theorem crash_u (k : Dsk) (keep : Int) (w : World) (h : Dk w k) :
    Calls Tryd.prog 19 #[ptr k.d, .int .i64 keep] w (PostV k w (pcrash keep (ab k))) := by
  refine (crash_any k keep w h).mono fun _ _ ⟨e1, h1, h2⟩ => ⟨e1, crashK keep k, ?_, rfl, h1, h2⟩
  unfold pcrash
  simp [ab, crashK, List.map_map, Function.comp_def]
  intros
  rfl
theorem on_u (k : Dsk) (w : World) (h : Dk w k) :
    Calls Tryd.prog 21 #[ptr k.d] w (PostV k w (pon (ab k))) :=
  (on_any k w h).mono fun _ _ ⟨e1, h1, h2⟩ => ⟨e1, onK k, by simp [ab, onK, pon], rfl, h1, h2⟩
theorem fuse_u (k : Dsk) (n keep : Int) (hn : n ≤ 9223372036854775807) (w : World) (h : Dk w k) :
    Calls Tryd.prog 18 #[ptr k.d, .int .i64 n, .int .i64 keep] w (PostV k w (pfuse (ab k) n keep)) := by
  by_cases h1 : n < 1
  · refine (fuse_off k n keep h1 w h).mono fun _ _ ⟨e1, h2, h3⟩ => ⟨e1, fuseO k, ?_, rfl, h2, h3⟩
    unfold pfuse
    cases hu : k.up <;> simp [ab, fuseO, hu, h1]
  · obtain ⟨m, rfl⟩ := Int.eq_ofNat_of_zero_le (show 0 ≤ n by omega)
    refine (fuse_set k m (by omega) (by unfold bigN; omega) keep w h).mono fun _ _ ⟨e1, b, h2, h3⟩ => ⟨e1, fuseN k m b keep, ?_, rfl, h2, h3⟩
    unfold pfuse
    rw [if_neg h1]
    cases hu : k.up <;> simp [ab, fuseN, hu]
theorem size_u (k : Dsk) (w : World) (h : Dk w k) :
    Calls Tryd.prog 25 #[ptr k.d] w fun e w' => e = .returned (.int .i64 (ptot (ab k).files : Nat)) ∧ Old w w' := by
  rw [show ptot (ab k).files = total k.files from st_tot _]
  exact size_any k w h
end Go.Proofs.YtilimfbjkgeciaaDoor
