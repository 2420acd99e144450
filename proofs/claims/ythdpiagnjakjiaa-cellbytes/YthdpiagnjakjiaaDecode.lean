/-
  Decode of the code: what it reads, step by step. Condition: the text has at most 100000 bytes.
-/
import Derived.Test.YthdpiagnjakjiaaDec
import Derived.Deep.DeepCutAuto
namespace Go.Proofs.Ythdpiagnjakjiaa
open Go.RowKit

/-- Block g holds just these cells, of this type, none of them frozen. -/
def Bk (w : World) (g : Nat) (t : TypeId) (cs : Array Value) : Prop := w.heap[g]? = some (.cells cs t (0, 0))
theorem Bk.cell {w : World} {g : Nat} {t : TypeId} {cs : Array Value} (h : Bk w g t cs) (o : Nat) : w.cell? ⟨g, o, none⟩ = cs[o]? := cell_of_row w g o cs t (0, 0) h
theorem Bk.fr {w : World} {g : Nat} {t : TypeId} {cs : Array Value} (h : Bk w g t cs) (o : Nat) : w.frozen? ⟨g, o, none⟩ = false := by
  unfold Bk at h
  simp [World.frozen?, h]
theorem Bk.lt {w : World} {g : Nat} {t : TypeId} {cs : Array Value} (h : Bk w g t cs) : g < w.heap.size := by
  rcases Nat.lt_or_ge g w.heap.size with h1 | h1
  · exact h1
  · unfold Bk at h; rw [Array.getElem?_eq_none h1] at h; cases h
theorem Bk.but {w w' : World} {g k : Nat} {t : TypeId} {cs : Array Value} (h : Bk w g t cs) (hb : But k w w') (hne : g ≠ k) : Bk w' g t cs :=
  (hb.block g h.lt (fun e => hne (by injection e))).trans h
theorem Bk.far {w : World} {g : Nat} {t : TypeId} {cs : Array Value} (h : Bk w g t cs) {p : Addr} (hp : g ≠ p.block) (u : Value) : Bk (w.setCell p u) g t cs :=
  (Below.heap_setCell w p u g hp).trans h
theorem Bk.set_ {w : World} {g : Nat} {t : TypeId} {cs : Array Value} (h : Bk w g t cs) (o : Nat) (u : Value) : Bk (w.setCell ⟨g, o, none⟩ u) g t (cs.setIfInBounds o u) := by
  unfold Bk at *
  simp [World.setCell, Array.getElem?_modify, h]
theorem Bk.old {w w' : World} {g : Nat} {t : TypeId} {cs : Array Value} (h : Bk w g t cs) (hb : Old w w') : Bk w' g t cs := (hb.block g h.lt).trans h
theorem Bk.drew {w : World} {g : Nat} {t : TypeId} {cs : Array Value} (h : Bk w g t cs) : Bk w.drew g t cs := h
theorem Bk.alloc {w : World} {g : Nat} {t : TypeId} {cs : Array Value} (h : Bk w g t cs) (o : Obj) : Bk (w.alloc o) g t cs := h.old (old_alloc _ _)

theorem new_bk (w : World) (t : TypeId) (cs : Array Value) : Bk (w.alloc (.cells cs t)) w.heap.size t cs := heap_alloc_new w _
theorem new_bk1 (w : World) (o : Obj) (t : TypeId) (cs : Array Value) : Bk ((w.alloc o).alloc (.cells cs t)) (w.heap.size + 1) t cs := by
  have h := new_bk (w.alloc o) t cs
  simpa using h

theorem Old.but {w w1 w2 : World} {g : Nat} (h : Old w w1) (hb : But g w1 w2) (hg : w.heap.size ≤ g) : Old w w2 :=
  ⟨hb.os.trans h.os, hb.tape.trans h.tape, hb.output.trans h.output, Nat.le_trans h.size hb.size, fun i hi => (hb.block i (Nat.lt_of_lt_of_le hi h.size) (fun e => by injection e with e; omega)).trans (h.block i hi)⟩

theorem Bk.six {W : World} {g : Nat} {t : TypeId} {u0 u1 u2 u3 u4 u5 : Value} (h : Bk W g t #[u0, u1, u2, u3, u4, u5]) :
    W.cell? ⟨g, 0, none⟩ = some u0 ∧ W.cell? ⟨g, 1, none⟩ = some u1 ∧ W.cell? ⟨g, 2, none⟩ = some u2 ∧ W.cell? ⟨g, 3, none⟩ = some u3 ∧ W.cell? ⟨g, 4, none⟩ = some u4 ∧ W.cell? ⟨g, 5, none⟩ = some u5 := by
  refine ⟨?_, ?_, ?_, ?_, ?_, ?_⟩ <;> (rw [h.cell]; rfl)
theorem put6 {W : World} {g : Nat} {t : TypeId} {v0 v1 v2 v3 v4 v5 : Value} (h : Bk W g t #[v0, v1, v2, v3, v4, v5]) (u0 u1 u2 u3 u4 u5 : Value) :
    Bk ((((((W.setCell ⟨g, 0, none⟩ u0).setCell ⟨g, 1, none⟩ u1).setCell ⟨g, 2, none⟩ u2).setCell ⟨g, 3, none⟩ u3).setCell ⟨g, 4, none⟩ u4).setCell ⟨g, 5, none⟩ u5) g t #[u0, u1, u2, u3, u4, u5] :=
  ((((((h.set_ 0 _).set_ 1 _).set_ 2 _).set_ 3 _).set_ 4 _).set_ 5 _)
theorem old6 {w W : World} (h : Old w W) (u0 u1 u2 u3 u4 u5 : Value) :
    Old w ((((((W.setCell ⟨w.heap.size, 0, none⟩ u0).setCell ⟨w.heap.size, 1, none⟩ u1).setCell ⟨w.heap.size, 2, none⟩ u2).setCell ⟨w.heap.size, 3, none⟩ u3).setCell ⟨w.heap.size, 4, none⟩ u4).setCell ⟨w.heap.size, 5, none⟩ u5) :=
  ((((((h.st (Nat.le_refl _) _).st (Nat.le_refl _) _).st (Nat.le_refl _) _).st (Nat.le_refl _) _).st (Nat.le_refl _) _).st (Nat.le_refl _) _)
theorem Sc.rz_ {W : World} {g : Nat} {t : TypeId} (h : Bk W g t #[.string ⟨#[]⟩, .string ⟨#[]⟩, .int .u64 0, .int .u64 0, .bool false, .string ⟨#[]⟩]) :
    W.cell? ⟨g, 0, none⟩ = some (.string ⟨#[]⟩) ∧ W.cell? ⟨g, 1, none⟩ = some (.string ⟨#[]⟩) ∧ W.cell? ⟨g, 2, none⟩ = some (.int .u64 0) ∧
    W.cell? ⟨g, 3, none⟩ = some (.int .u64 0) ∧ W.cell? ⟨g, 4, none⟩ = some (.bool false) ∧ W.cell? ⟨g, 5, none⟩ = some (.string ⟨#[]⟩) := by
  refine ⟨?_, ?_, ?_, ?_, ?_, ?_⟩ <;> (rw [h.cell]; rfl)
theorem textL_le (l : List UInt8) (e : Int) : (textL l e).length ≤ l.length := by
  unfold textL; exact Nat.le_trans (takeL_le _ _ _) (takeL_le _ _ _)
abbrev zeroCell : Array Value := #[.string ⟨#[]⟩, .string ⟨#[]⟩, .int .u64 0, .int .u64 0, .bool false, .string ⟨#[]⟩]

/-- The frame of Decode while names are read. -/
structure St (w W : World) (l : List UInt8) (e : Int) (n0 n1 : List UInt8) : Prop where
  rd : Rd W (w.heap.size + 1) l e
  rs : Bk W w.heap.size 24 zeroCell
  nm : Bk W (w.heap.size + 1 + 1) 45 #[.string (B n0), .string (B n1)]
  od : Old w W
theorem St.but {w W W' : World} {l l' : List UInt8} {e e' : Int} {n0 n1 : List UInt8} (h : St w W l e n0 n1) (hr : Rd W' (w.heap.size + 1) l' e') (hb : But (w.heap.size + 1) W W') : St w W' l' e' n0 n1 :=
  ⟨hr, h.rs.but hb (by omega), h.nm.but hb (by omega), h.od.but hb (by omega)⟩
theorem St.set0 {w W : World} {l : List UInt8} {e : Int} {n0 n1 : List UInt8} (h : St w W l e n0 n1) (a : List UInt8) : St w (W.setCell ⟨w.heap.size + 1 + 1, 0, none⟩ (.string (B a))) l e a n1 :=
  ⟨Bk.far (t := 66) h.rd (by simp) _, h.rs.far (by simp; omega) _, h.nm.set_ 0 _, h.od.st (by simp; omega) _⟩
theorem St.set1 {w W : World} {l : List UInt8} {e : Int} {n0 n1 : List UInt8} (h : St w W l e n0 n1) (a : List UInt8) : St w (W.setCell ⟨w.heap.size + 1 + 1, 1, none⟩ (.string (B a))) l e n0 a :=
  ⟨Bk.far (t := 66) h.rd (by simp) _, h.rs.far (by simp; omega) _, h.nm.set_ 1 _, h.od.st (by simp; omega) _⟩

/-- The frame of Decode while the cell is filled: it lies in block g. -/
structure Sc (w W : World) (l : List UInt8) (e : Int) (g : Nat) (c : Cel) : Prop where
  rd : Rd W (w.heap.size + 1) l e
  rs : Bk W w.heap.size 24 zeroCell
  cl : Bk W g 24 (cells c)
  gt : w.heap.size + 1 < g
  od : Old w W
theorem St.sc {w W : World} {l : List UInt8} {e : Int} {n0 n1 : List UInt8} (h : St w W l e n0 n1) :
    Sc w (W.alloc (.cells (cells ⟨n0, n1, 0, 0, false, []⟩) 24)) l e W.heap.size ⟨n0, n1, 0, 0, false, []⟩ :=
  ⟨Bk.alloc (t := 66) h.rd _, h.rs.alloc _, heap_alloc_new _ _, by have := h.nm.lt; omega, h.od.al _⟩
theorem Sc.but {w W W' : World} {l l' : List UInt8} {e e' : Int} {g : Nat} {c : Cel} (h : Sc w W l e g c) (hr : Rd W' (w.heap.size + 1) l' e') (hb : But (w.heap.size + 1) W W') : Sc w W' l' e' g c :=
  ⟨hr, h.rs.but hb (by omega), h.cl.but hb (by have := h.gt; omega), h.gt, h.od.but hb (by omega)⟩
theorem Sc.set_ {w W : World} {l : List UInt8} {e : Int} {g : Nat} {c c' : Cel} (h : Sc w W l e g c) (o : Nat) (u : Value) (hc : (cells c).setIfInBounds o u = cells c') : Sc w (W.setCell ⟨g, o, none⟩ u) l e g c' := by
  have hg := h.gt
  exact ⟨Bk.far (t := 66) h.rd (by simp; omega) _, h.rs.far (by simp; omega) _, by rw [← hc]; exact h.cl.set_ o u, hg, h.od.st (by simp; omega) _⟩
theorem Sc.setE {w W : World} {l : List UInt8} {e : Int} {g : Nat} {c : Cel} (h : Sc w W l e g c) (f : Int) : Sc w (W.setCell ⟨w.heap.size + 1, 1, none⟩ (.int .i64 f)) l f g c := by
  have hg := h.gt
  exact ⟨h.rd.s1 f, h.rs.far (by simp) _, h.cl.far (by simp; omega) _, hg, h.od.st (by simp) _⟩
theorem Sc.old {w W W' : World} {l : List UInt8} {e : Int} {g : Nat} {c : Cel} (h : Sc w W l e g c) (hb : Old W W') : Sc w W' l e g c :=
  ⟨Bk.old (t := 66) h.rd hb, h.rs.old hb, h.cl.old hb, h.gt, h.od.tr hb⟩
theorem Sc.cs {w W : World} {l : List UInt8} {e : Int} {g : Nat} {c : Cel} (h : Sc w W l e g c) :
    W.cell? ⟨g, 0, none⟩ = some (.string (B c.row)) ∧ W.cell? ⟨g, 1, none⟩ = some (.string (B c.col)) ∧ W.cell? ⟨g, 2, none⟩ = some (.int .u64 c.ts) ∧
    W.cell? ⟨g, 3, none⟩ = some (.int .u64 c.seq) ∧ W.cell? ⟨g, 4, none⟩ = some (.bool c.del) ∧ W.cell? ⟨g, 5, none⟩ = some (.string (B c.val)) := by
  refine ⟨?_, ?_, ?_, ?_, ?_, ?_⟩ <;> (rw [h.cl.cell]; rfl)

def dR (s : List UInt8) : List UInt8 := textT s 0
def dL1 (s : List UInt8) : List UInt8 := textL s 0
def dE1 (s : List UInt8) : Int := textE s 0
def dC (s : List UInt8) : List UInt8 := textT (dL1 s) (dE1 s)
def dL2 (s : List UInt8) : List UInt8 := textL (dL1 s) (dE1 s)
def dE2 (s : List UInt8) : Int := textE (dL1 s) (dE1 s)
def dT (s : List UInt8) : Nat := lowV (takeT (dL2 s) (dE2 s) 8)
def dL3 (s : List UInt8) : List UInt8 := takeL (dL2 s) (dE2 s) 8
def dE3 (s : List UInt8) : Int := takeE (dL2 s) (dE2 s) 8
def dS (s : List UInt8) : Nat := lowV (takeT (dL3 s) (dE3 s) 8)
def dL4 (s : List UInt8) : List UInt8 := takeL (dL3 s) (dE3 s) 8
def dE4 (s : List UInt8) : Int := takeE (dL3 s) (dE3 s) 8
def dD (s : List UInt8) : Bool := flagB (dL4 s) (dE4 s)
def dL5 (s : List UInt8) : List UInt8 := takeL (dL4 s) (dE4 s) 1
def dE5 (s : List UInt8) : Int := flagE (dL4 s) (dE4 s)
def dV (s : List UInt8) : List UInt8 := textT (dL5 s) (dE5 s)
def dL6 (s : List UInt8) : List UInt8 := textL (dL5 s) (dE5 s)
def dE6 (s : List UInt8) : Int := textE (dL5 s) (dE5 s)
def dCel (s : List UInt8) : Cel := ⟨dR s, dC s, dT s, dS s, dD s, dV s⟩
theorem dL1_le (s : List UInt8) : (dL1 s).length ≤ s.length := textL_le _ _
theorem dL2_le (s : List UInt8) : (dL2 s).length ≤ s.length := Nat.le_trans (textL_le _ _) (dL1_le s)
theorem dL4_le (s : List UInt8) : (dL4 s).length ≤ s.length := Nat.le_trans (takeL_le _ _ _) (Nat.le_trans (takeL_le _ _ _) (dL2_le s))
theorem dL5_le (s : List UInt8) : (dL5 s).length ≤ s.length := Nat.le_trans (takeL_le _ _ _) (dL4_le s)
/-- What Decode answers. -/
def decV (s : List UInt8) : Value :=
  if dE6 s = 0 then (if mayB (dCel s) = true then .tuple #[cv (dCel s), .string (B (dL6 s)), .int .i64 0] else .tuple #[.agg zeroCell, .string ⟨#[]⟩, .int .i64 1])
  else .tuple #[.agg zeroCell, .string ⟨#[]⟩, .int .i64 (dE6 s)]

set_option maxHeartbeats 4000000 in
theorem decode_any (s : List UInt8) (w : World) (hs : s.length ≤ 100000) :
    Calls Try.prog 27 #[.string (B s)] w fun e w' => e = .returned (decV s) ∧ Old w w' := by
  have l2 := dL1_le s
  have l4 := dL4_le s
  have l5 := dL5_le s
  go_enter Try.func27, Try.ntmps27
  go_wp2_with fail
  have h0 : St w (((w.alloc (.cells zeroCell 24)).alloc (.cells #[.string (B s), .int .i64 0] 66)).alloc (.cells #[.string ⟨#[]⟩, .string ⟨#[]⟩] 45)) s 0 [] [] :=
    ⟨by have := Bk.alloc (t := 66) (heap_alloc_new (w.alloc (.cells zeroCell 24)) (.cells #[.string (B s), .int .i64 0] 66)) (.cells #[.string ⟨#[]⟩, .string ⟨#[]⟩] 45); simp at this; exact this,
     Bk.alloc (Bk.alloc (heap_alloc_new _ _) _) _, by have := heap_alloc_new ((w.alloc (.cells zeroCell 24)).alloc (.cells #[.string (B s), .int .i64 0] 66)) (.cells #[.string ⟨#[]⟩, .string ⟨#[]⟩] 45); simpa [Bk] using this, (((Old.re _).al _).al _).al _⟩
  refine wp_loop_rounds 3 ?_
  rw [rounds_succ]
  go_wp2_with fail
  refine (text_any _ s 0 _ h0.rd (by omega)).mono ?_
  rintro r w1 ⟨rfl, hr, hb⟩
  have h1 := h0.but hr hb
  clear h0 hr hb
  have k0 := h1.nm.cell 0
  have k0f := h1.nm.fr 0
  go_wp2
  have h2 := h1.set0 (textT s 0)
  generalize w1.setCell ⟨w.heap.size + 1 + 1, 0, none⟩ (.string (B (textT s 0))) = w2 at *
  clear h1 k0 k0f
  rw [rounds_succ]
  go_wp2_with fail
  refine (text_any _ _ _ _ h2.rd (by have := textL_le s 0; omega)).mono ?_
  rintro r w3 ⟨rfl, hr, hb⟩
  have h3 := h2.but hr hb
  clear h2 hr hb
  have k0 := h3.nm.cell 1
  have k0f := h3.nm.fr 1
  go_wp2
  have h4 := h3.set1 (textT (textL s 0) (textE s 0))
  generalize w3.setCell ⟨w.heap.size + 1 + 1, 1, none⟩ (.string (B (textT (textL s 0) (textE s 0)))) = w4 at *
  clear h3 k0 k0f
  have h4 : St w w4 (dL2 s) (dE2 s) (dR s) (dC s) := h4
  have k0 : w4.cell? ⟨w.heap.size + 1 + 1, 0, none⟩ = some (.string (B (dR s))) := h4.nm.cell 0
  have k1 : w4.cell? ⟨w.heap.size + 1 + 1, 1, none⟩ = some (.string (B (dC s))) := h4.nm.cell 1
  rw [rounds_succ]
  go_wp2_with fail
  have h5 := h4.sc
  clear h4 k0 k1
  refine (lowFirst_any _ _ _ _ h5.rd).mono ?_
  rintro r w6 ⟨rfl, hr, hb⟩
  have h6 : Sc w w6 (dL3 s) (dE3 s) w4.heap.size _ := h5.but hr hb
  clear h5 hr hb
  have k0 := h6.cs.2.2.1
  have k0f := h6.cl.fr 2
  go_wp2_with fail
  have h7 := h6.set_ (c' := ⟨dR s, dC s, dT s, 0, false, []⟩) 2 (.int .u64 (dT s)) rfl
  clear h6 k0 k0f
  refine (lowFirst_any _ _ _ _ h7.rd).mono ?_
  rintro r w8 ⟨rfl, hr, hb⟩
  have h8 : Sc w w8 (dL4 s) (dE4 s) w4.heap.size _ := h7.but hr hb
  clear h7 hr hb
  have k0 := h8.cs.2.2.2.1
  have k0f := h8.cl.fr 3
  go_wp2_with fail
  have h9 := h8.set_ (c' := ⟨dR s, dC s, dT s, dS s, false, []⟩) 3 (.int .u64 (dS s)) rfl
  clear h8 k0 k0f
  refine (flag_any _ _ _ _ h9.rd (by omega)).mono ?_
  rintro r w10 ⟨rfl, hr, hb⟩
  have h10 : Sc w w10 (dL5 s) (dE5 s) w4.heap.size _ := h9.but hr hb
  clear h9 hr hb
  have k0 := h10.cs.2.2.2.2.1
  have k0f := h10.cl.fr 4
  go_wp2_with fail
  have h11 := h10.set_ (c' := ⟨dR s, dC s, dT s, dS s, dD s, []⟩) 4 (.bool (dD s)) rfl
  clear h10 k0 k0f
  refine (text_any _ _ _ _ h11.rd (by omega)).mono ?_
  rintro r w12 ⟨rfl, hr, hb⟩
  have h12 : Sc w w12 (dL6 s) (dE6 s) w4.heap.size _ := h11.but hr hb
  clear h11 hr hb
  have k0 := h12.cs.2.2.2.2.2
  have k0f := h12.cl.fr 5
  have h13 : Sc w (w12.setCell ⟨w4.heap.size, 5, none⟩ (.string (B (textT (dL5 s) (dE5 s))))) (dL6 s) (dE6 s) w4.heap.size (dCel s) := h12.set_ 5 (.string (B (dV s))) rfl
  go_upto_region 13 with (fail)
  generalize w12.setCell ⟨w4.heap.size, 5, none⟩ (.string (B (textT (dL5 s) (dE5 s)))) = w13 at *
  clear h12 k0 k0f
  obtain ⟨f0, f1, f2, f3, f4, f5⟩ := h13.cs
  have k2 := h13.rd.c1
  have k3 := h13.rd.c0
  generalize hg : w4.heap.size = g at *
  clear hg
  by_cases he : dE6 s = 0
  · rw [he] at k2
    by_cases hm : mayB (dCel s) = true
    · have HV := Lib.hid (show decV s = .tuple #[cv (dCel s), .string (B (dL6 s)), .int .i64 0] by simp [decV, he, hm])
      generalize dCel s = c at *
      have HE := Lib.hid he
      clear he
      go_wp2_with fail
      refine (may_any c _).mono ?_
      rintro r w14 ⟨rfl, hb⟩
      have h14 := h13.old hb
      clear h13 hb f0 f1 f2 f3 f4 f5 k2 k3
      obtain ⟨f0, f1, f2, f3, f4, f5⟩ := h14.cs
      have k3 := h14.rd.c0
      have k2 := h14.rd.c1
      rw [HE.out] at k2
      obtain ⟨r0, r1, r2, r3, r4, r5⟩ := Sc.rz_ h14.rs
      have rf := h14.rs.fr
      go_wp2_with fail
      go_region
      go_wp2
      have hB := put6 h14.rs (.string (B c.row)) (.string (B c.col)) (.int .u64 c.ts) (.int .u64 c.seq) (.bool c.del) (.string (B c.val))
      have hO := old6 h14.od (.string (B c.row)) (.string (B c.col)) (.int .u64 c.ts) (.int .u64 c.seq) (.bool c.del) (.string (B c.val))
      rw [HV.out]
      generalize ((((((w14.setCell ⟨w.heap.size, 0, none⟩ (.string (B c.row))).setCell ⟨w.heap.size, 1, none⟩ (.string (B c.col))).setCell ⟨w.heap.size, 2, none⟩ (.int .u64 c.ts)).setCell ⟨w.heap.size, 3, none⟩ (.int .u64 c.seq)).setCell ⟨w.heap.size, 4, none⟩ (.bool c.del)).setCell ⟨w.heap.size, 5, none⟩ (.string (B c.val))) = w15 at *
      obtain ⟨z0, z1, z2, z3, z4, z5⟩ := Bk.six hB.drew
      exact bodyPost_ret (v := .tuple #[cv c, .string (B (dL6 s)), .int .i64 0]) (by simp [results, Try.results27, go_sem, z0, z1, z2, z3, z4, z5]) rfl ⟨rfl, hO.dr⟩
    · have hm2 : mayB (dCel s) = false := by simpa using hm
      have HV := Lib.hid (show decV s = .tuple #[.agg zeroCell, .string ⟨#[]⟩, .int .i64 1] by simp [decV, he, hm])
      generalize dCel s = c at *
      have HE := Lib.hid he
      clear he hm
      go_wp2_with fail
      refine (may_any c _).mono ?_
      rintro r w14 ⟨rfl, hb⟩
      have h14 := h13.old hb
      clear h13 hb f0 f1 f2 f3 f4 f5 k2 k3
      have k2 := h14.rd.c1
      have k2f := h14.rd.fr
      rw [HE.out] at k2
      go_upto_region 15 with (fail)
      have h16 := h14.setE 1
      generalize w14.setCell ⟨w.heap.size + 1, 1, none⟩ (.int .i64 1) = w16 at *
      clear h14 k2 k2f
      have k2 := h16.rd.c1
      obtain ⟨r0, r1, r2, r3, r4, r5⟩ := Sc.rz_ h16.rs
      have rf := h16.rs.fr
      go_wp2_with fail
      go_region
      go_wp2
      have hB := put6 h16.rs (.string ⟨#[]⟩) (.string ⟨#[]⟩) (.int .u64 0) (.int .u64 0) (.bool false) (.string ⟨#[]⟩)
      have hO := old6 h16.od (.string ⟨#[]⟩) (.string ⟨#[]⟩) (.int .u64 0) (.int .u64 0) (.bool false) (.string ⟨#[]⟩)
      rw [HV.out]
      generalize ((((((w16.setCell ⟨w.heap.size, 0, none⟩ (.string ⟨#[]⟩)).setCell ⟨w.heap.size, 1, none⟩ (.string ⟨#[]⟩)).setCell ⟨w.heap.size, 2, none⟩ (.int .u64 0)).setCell ⟨w.heap.size, 3, none⟩ (.int .u64 0)).setCell ⟨w.heap.size, 4, none⟩ (.bool false)).setCell ⟨w.heap.size, 5, none⟩ (.string ⟨#[]⟩)) = w15 at *
      obtain ⟨z0, z1, z2, z3, z4, z5⟩ := Bk.six hB.drew
      exact bodyPost_ret (v := .tuple #[.agg zeroCell, .string ⟨#[]⟩, .int .i64 1]) (by simp [results, Try.results27, go_sem, z0, z1, z2, z3, z4, z5]) rfl ⟨rfl, hO.dr⟩
  · have he2 : (dE6 s == 0) = false := by simpa using he
    have he3 : (dE6 s != 0) = true := by simpa using he
    have HV := Lib.hid (show decV s = .tuple #[.agg zeroCell, .string ⟨#[]⟩, .int .i64 (dE6 s)] by simp [decV, he])
    obtain ⟨r0, r1, r2, r3, r4, r5⟩ := Sc.rz_ h13.rs
    have rf := h13.rs.fr
    clear he
    go_wp2_with fail
    go_region
    go_wp2
    have hB := put6 h13.rs (.string ⟨#[]⟩) (.string ⟨#[]⟩) (.int .u64 0) (.int .u64 0) (.bool false) (.string ⟨#[]⟩)
    have hO := old6 h13.od (.string ⟨#[]⟩) (.string ⟨#[]⟩) (.int .u64 0) (.int .u64 0) (.bool false) (.string ⟨#[]⟩)
    rw [HV.out]
    generalize ((((((w13.setCell ⟨w.heap.size, 0, none⟩ (.string ⟨#[]⟩)).setCell ⟨w.heap.size, 1, none⟩ (.string ⟨#[]⟩)).setCell ⟨w.heap.size, 2, none⟩ (.int .u64 0)).setCell ⟨w.heap.size, 3, none⟩ (.int .u64 0)).setCell ⟨w.heap.size, 4, none⟩ (.bool false)).setCell ⟨w.heap.size, 5, none⟩ (.string ⟨#[]⟩)) = w15 at *
    obtain ⟨z0, z1, z2, z3, z4, z5⟩ := Bk.six hB.drew
    exact bodyPost_ret (v := .tuple #[.agg zeroCell, .string ⟨#[]⟩, .int .i64 (dE6 s)]) (by simp [results, Try.results27, go_sem, z0, z1, z2, z3, z4, z5]) rfl ⟨rfl, hO.dr⟩
end Go.Proofs.Ythdpiagnjakjiaa
