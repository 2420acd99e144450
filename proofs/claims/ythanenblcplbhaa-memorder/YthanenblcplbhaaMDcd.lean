/-
  Decode of the code: what it reads, step by step. Condition: the text has at most 100000 bytes.
-/
import Derived.Test.YthanenblcplbhaaMDec
import Derived.Deep.DeepCutAuto
namespace Go.Proofs.Ythanenblcplbhaa
open Go.RowKit

/-- Block g holds just these cells, of this type, none of them frozen. -/
def Bk (w : World) (g : Nat) (t : TypeId) (cs : Array Value) : Prop := w.heap[g]? = some (.cells cs t (0, 0))
theorem Bk.cell {w : World} {g : Nat} {t : TypeId} {cs : Array Value} (h : Bk w g t cs) (o : Nat) : w.cell? ⟨g, o, none⟩ = cs[o]? := cell_of_row w g o cs t (0, 0) h
theorem Bk.fr {w : World} {g : Nat} {t : TypeId} {cs : Array Value} (h : Bk w g t cs) (o : Nat) : w.frozen? ⟨g, o, none⟩ = false := by
  unfold Bk at h
  simp [World.frozen?, h]
theorem Bk.lt {w : World} {g : Nat} {t : TypeId} {cs : Array Value} (h : Bk w g t cs) : g < w.heap.size := by
  rcases Nat.lt_or_ge g w.heap.size with h1 | h1
  · exact h1
  · unfold Bk at h; rw [Array.getElem?_eq_none h1] at h; cases h
theorem Bk.but {w w' : World} {g k : Nat} {t : TypeId} {cs : Array Value} (h : Bk w g t cs) (hb : But k w w') (hne : g ≠ k) : Bk w' g t cs :=
  (hb.block g h.lt (fun e => hne (by injection e))).trans h
theorem Bk.far {w : World} {g : Nat} {t : TypeId} {cs : Array Value} (h : Bk w g t cs) {p : Addr} (hp : g ≠ p.block) (u : Value) : Bk (w.setCell p u) g t cs :=
  (Below.heap_setCell w p u g hp).trans h
theorem Bk.set_ {w : World} {g : Nat} {t : TypeId} {cs : Array Value} (h : Bk w g t cs) (o : Nat) (u : Value) : Bk (w.setCell ⟨g, o, none⟩ u) g t (cs.setIfInBounds o u) := by
  unfold Bk at *
  simp [World.setCell, Array.getElem?_modify, h]
theorem Bk.old {w w' : World} {g : Nat} {t : TypeId} {cs : Array Value} (h : Bk w g t cs) (hb : Old w w') : Bk w' g t cs := (hb.block g h.lt).trans h
theorem Bk.drew {w : World} {g : Nat} {t : TypeId} {cs : Array Value} (h : Bk w g t cs) : Bk w.drew g t cs := h
theorem Bk.alloc {w : World} {g : Nat} {t : TypeId} {cs : Array Value} (h : Bk w g t cs) (o : Obj) : Bk (w.alloc o) g t cs := h.old (old_alloc _ _)

theorem new_bk (w : World) (t : TypeId) (cs : Array Value) : Bk (w.alloc (.cells cs t)) w.heap.size t cs := heap_alloc_new w _
theorem new_bk1 (w : World) (o : Obj) (t : TypeId) (cs : Array Value) : Bk ((w.alloc o).alloc (.cells cs t)) (w.heap.size + 1) t cs := by
  have h := new_bk (w.alloc o) t cs
  simpa using h

theorem Old.but {w w1 w2 : World} {g : Nat} (h : Old w w1) (hb : But g w1 w2) (hg : w.heap.size ≤ g) : Old w w2 :=
  ⟨hb.os.trans h.os, hb.tape.trans h.tape, hb.output.trans h.output, Nat.le_trans h.size hb.size, fun i hi => (hb.block i (Nat.lt_of_lt_of_le hi h.size) (fun e => by injection e with e; omega)).trans (h.block i hi)⟩

theorem Bk.six {W : World} {g : Nat} {t : TypeId} {u0 u1 u2 u3 u4 u5 : Value} (h : Bk W g t #[u0, u1, u2, u3, u4, u5]) :
    W.cell? ⟨g, 0, none⟩ = some u0 ∧ W.cell? ⟨g, 1, none⟩ = some u1 ∧ W.cell? ⟨g, 2, none⟩ = some u2 ∧ W.cell? ⟨g, 3, none⟩ = some u3 ∧ W.cell? ⟨g, 4, none⟩ = some u4 ∧ W.cell? ⟨g, 5, none⟩ = some u5 := by
  refine ⟨?_, ?_, ?_, ?_, ?_, ?_⟩ <;> (rw [h.cell]; rfl)
theorem put6 {W : World} {g : Nat} {t : TypeId} {v0 v1 v2 v3 v4 v5 : Value} (h : Bk W g t #[v0, v1, v2, v3, v4, v5]) (u0 u1 u2 u3 u4 u5 : Value) :
    Bk ((((((W.setCell ⟨g, 0, none⟩ u0).setCell ⟨g, 1, none⟩ u1).setCell ⟨g, 2, none⟩ u2).setCell ⟨g, 3, none⟩ u3).setCell ⟨g, 4, none⟩ u4).setCell ⟨g, 5, none⟩ u5) g t #[u0, u1, u2, u3, u4, u5] :=
  ((((((h.set_ 0 _).set_ 1 _).set_ 2 _).set_ 3 _).set_ 4 _).set_ 5 _)
theorem old6 {w W : World} (h : Old w W) (u0 u1 u2 u3 u4 u5 : Value) :
    Old w ((((((W.setCell ⟨w.heap.size, 0, none⟩ u0).setCell ⟨w.heap.size, 1, none⟩ u1).setCell ⟨w.heap.size, 2, none⟩ u2).setCell ⟨w.heap.size, 3, none⟩ u3).setCell ⟨w.heap.size, 4, none⟩ u4).setCell ⟨w.heap.size, 5, none⟩ u5) :=
  ((((((h.st (Nat.le_refl _) _).st (Nat.le_refl _) _).st (Nat.le_refl _) _).st (Nat.le_refl _) _).st (Nat.le_refl _) _).st (Nat.le_refl _) _)
theorem Sc.rz_ {W : World} {g : Nat} {t : TypeId} (h : Bk W g t #[.string ⟨#[]⟩, .string ⟨#[]⟩, .int .u64 0, .int .u64 0, .bool false, .string ⟨#[]⟩]) :
    W.cell? ⟨g, 0, none⟩ = some (.string ⟨#[]⟩) ∧ W.cell? ⟨g, 1, none⟩ = some (.string ⟨#[]⟩) ∧ W.cell? ⟨g, 2, none⟩ = some (.int .u64 0) ∧
    W.cell? ⟨g, 3, none⟩ = some (.int .u64 0) ∧ W.cell? ⟨g, 4, none⟩ = some (.bool false) ∧ W.cell? ⟨g, 5, none⟩ = some (.string ⟨#[]⟩) := by
  refine ⟨?_, ?_, ?_, ?_, ?_, ?_⟩ <;> (rw [h.cell]; rfl)
theorem textL_le (l : List UInt8) (e : Int) : (textL l e).length ≤ l.length := by
  unfold textL; exact Nat.le_trans (takeL_le _ _ _) (takeL_le _ _ _)
abbrev zeroCell : Array Value := #[.string ⟨#[]⟩, .string ⟨#[]⟩, .int .u64 0, .int .u64 0, .bool false, .string ⟨#[]⟩]

def dR (s : List UInt8) : List UInt8 := textT s 0
def dL1 (s : List UInt8) : List UInt8 := textL s 0
def dE1 (s : List UInt8) : Int := textE s 0
def dC (s : List UInt8) : List UInt8 := textT (dL1 s) (dE1 s)
def dL2 (s : List UInt8) : List UInt8 := textL (dL1 s) (dE1 s)
def dE2 (s : List UInt8) : Int := textE (dL1 s) (dE1 s)
def dT (s : List UInt8) : Nat := lowV (takeT (dL2 s) (dE2 s) 8)
def dL3 (s : List UInt8) : List UInt8 := takeL (dL2 s) (dE2 s) 8
def dE3 (s : List UInt8) : Int := takeE (dL2 s) (dE2 s) 8
def dS (s : List UInt8) : Nat := lowV (takeT (dL3 s) (dE3 s) 8)
def dL4 (s : List UInt8) : List UInt8 := takeL (dL3 s) (dE3 s) 8
def dE4 (s : List UInt8) : Int := takeE (dL3 s) (dE3 s) 8
def dD (s : List UInt8) : Bool := flagB (dL4 s) (dE4 s)
def dL5 (s : List UInt8) : List UInt8 := takeL (dL4 s) (dE4 s) 1
def dE5 (s : List UInt8) : Int := flagE (dL4 s) (dE4 s)
def dV (s : List UInt8) : List UInt8 := textT (dL5 s) (dE5 s)
def dL6 (s : List UInt8) : List UInt8 := textL (dL5 s) (dE5 s)
def dE6 (s : List UInt8) : Int := textE (dL5 s) (dE5 s)
def dCel (s : List UInt8) : Cel := ⟨dR s, dC s, dT s, dS s, dD s, dV s⟩
theorem dL1_le (s : List UInt8) : (dL1 s).length ≤ s.length := textL_le _ _
theorem dL2_le (s : List UInt8) : (dL2 s).length ≤ s.length := Nat.le_trans (textL_le _ _) (dL1_le s)
theorem dL4_le (s : List UInt8) : (dL4 s).length ≤ s.length := Nat.le_trans (takeL_le _ _ _) (Nat.le_trans (takeL_le _ _ _) (dL2_le s))
theorem dL5_le (s : List UInt8) : (dL5 s).length ≤ s.length := Nat.le_trans (takeL_le _ _ _) (dL4_le s)
/-- What Decode answers. -/
def decV (s : List UInt8) : Value :=
  if dE6 s = 0 then (if mayB (dCel s) = true then .tuple #[cv (dCel s), .string (B (dL6 s)), .int .i64 0] else .tuple #[.agg zeroCell, .string ⟨#[]⟩, .int .i64 1])
  else .tuple #[.agg zeroCell, .string ⟨#[]⟩, .int .i64 (dE6 s)]

end Go.Proofs.Ythanenblcplbhaa
