/-
  Disks as plain data, and what each call of a disk makes of them. Nothing of the program here.
-/
import Derived.Test.YtilimfbjkgeciaaDoorVFind
namespace Go.Proofs.YtilimfbjkgeciaaDoor
open Go.RowKit

/-- A file as plain data: its name, its bytes, how many of them are synced. -/
structure Pf where
  name : List UInt8
  s : List UInt8
  n : Nat
/-- A disk as plain data; left is 0 where no fuse is laid, or where it is not up. -/
structure Pd where
  cap : Nat
  files : List Pf
  up : Bool
  left : Nat
  keep : Int

def pfnd (L : List Pf) (s : List UInt8) : Option Pf := L.find? fun f => f.name == s
def pdel (s : List UInt8) (L : List Pf) : List Pf := L.filter fun f => f.name != s
def ptot (L : List Pf) : Nat := (L.map fun f => f.s.length).sum
def pset (s : List UInt8) (g : Pf → Pf) (L : List Pf) : List Pf := L.map fun f => if f.name = s then g f else f
def pstay (keep : Int) (f : Pf) : Nat := if 0 < keep then f.n + keep.toNat % (f.s.length - f.n + 1) else f.n
def pcr (keep : Int) (f : Pf) : Pf := ⟨f.name, f.s.take (pstay keep f), pstay keep f⟩
def pcrash (keep : Int) (p : Pd) : Pd := ⟨p.cap, p.files.map (pcr keep), false, 0, 0⟩
/-- What comes of a call that has no error of its own, and leaves the files L. -/
def pgate (p : Pd) (always : Bool) (L : List Pf) : Pd × Int :=
  if p.left = 0 then (⟨p.cap, L, p.up, p.left, p.keep⟩, 0)
  else if 1 < p.left then (⟨p.cap, L, p.up, p.left - 1, p.keep⟩, 0)
  else if always = true ∨ p.keep.tmod 2 ≠ 0 then (⟨p.cap, L.map (pcr p.keep), false, 0, 0⟩, 6)
  else (pcrash p.keep p, 6)
def perr (p : Pd) (s : List UInt8) : Int := if p.up = false then 6 else if bad s = true then 1 else 0
def pneed (p : Pd) (s : List UInt8) : Int := if perr p s ≠ 0 then perr p s else if (pfnd p.files s).isNone = true then 3 else 0
def pcreate (p : Pd) (s : List UInt8) : Pd × Int :=
  if perr p s ≠ 0 then (p, perr p s) else if (pfnd p.files s).isSome = true then (p, 4) else if 200 ≤ p.files.length then (p, 2)
  else pgate p false (p.files ++ [⟨s, [], 0⟩])
def grow (t : List UInt8) (f : Pf) : Pf := ⟨f.name, f.s ++ t, f.n⟩
def fast (f : Pf) : Pf := ⟨f.name, f.s, f.s.length⟩
def pappend (p : Pd) (s t : List UInt8) : Pd × Int :=
  if pneed p s ≠ 0 then (p, pneed p s) else if p.cap < ptot p.files + t.length then (p, 2) else pgate p true (pset s (grow t) p.files)
def psync (p : Pd) (s : List UInt8) : Pd × Int :=
  if pneed p s ≠ 0 then (p, pneed p s) else pgate p false (pset s fast p.files)
def pdelete (p : Pd) (s : List UInt8) : Pd × Int :=
  if pneed p s ≠ 0 then (p, pneed p s) else pgate p false (pdel s p.files)
/-- The files when one has another name. -/
def pmove (s t : List UInt8) (L : List Pf) : List Pf :=
  match pfnd L s with
  | some f => pdel t (pdel s L) ++ [⟨t, f.s, f.n⟩]
  | none => L
def prerr (p : Pd) (s t : List UInt8) : Int := if p.up = false then 6 else if (bad s || bad t) = true then 1 else if (pfnd p.files s).isNone = true then 3 else 0
def prename (p : Pd) (s t : List UInt8) : Pd × Int :=
  if prerr p s t ≠ 0 then (p, prerr p s t) else pgate p false (pmove s t p.files)
def pread (p : Pd) (s : List UInt8) : List UInt8 × Int :=
  if pneed p s ≠ 0 then ([], pneed p s) else (match pfnd p.files s with | some f => f.s | none => [], 0)
def pon (p : Pd) : Pd := ⟨p.cap, p.files, true, 0, 0⟩
def pfuse (p : Pd) (n keep : Int) : Pd := if p.up = false then p else if n < 1 then ⟨p.cap, p.files, p.up, 0, 0⟩ else ⟨p.cap, p.files, p.up, n.toNat, keep⟩

/-- Steps in a row, up to the first error. -/
def prow : List (Pd → Pd × Int) → Pd → Pd × Int
  | [], p => (p, 0)
  | f :: fs, p => if (f p).2 = 0 then prow fs (f p).1 else f p
/-- A file is deleted if it is there. -/
def pclear (s : List UInt8) (p : Pd) : Pd × Int := if (pdelete p s).2 = 3 then ((pdelete p s).1, 0) else pdelete p s
def side (x : List UInt8) : List UInt8 := x ++ [43]
def wsteps (x s : List UInt8) : List (Pd → Pd × Int) := [pclear (side x), fun p => pcreate p (side x), fun p => pappend p (side x) s, fun p => psync p (side x), fun p => prename p (side x) x]
/-- A file is written. -/
def pwrite (x s : List UInt8) (p : Pd) : Pd × Int := prow (wsteps x s) p
def asteps (x s : List UInt8) : List (Pd → Pd × Int) := [fun p => pappend p x s, fun p => psync p x]
/-- A text is laid behind a file. -/
def play (x s : List UInt8) (p : Pd) : Pd × Int := prow (asteps x s) p
end Go.Proofs.YtilimfbjkgeciaaDoor
