/-
  The values of cells and texts; blocks; how two cells stand, of the code and of the reference. No conditions but those written.
-/
import Derived.Test.YtohokmfbcehkgaaRows
import Derived.WalkKit
import Derived.WalkSpells
import Derived.WalkLawsBesides
import Derived.Lib.Hide
import Derived.Deep.RegionHeld3
import Derived.Deep.QuietTactic
import Derived.BigQuiet
import Derived.Deep.Light
import Derived.Deep.DeepCutAuto
import Derived.ChangeKeysEq
namespace Go.Proofs.Ytohokmfbcehkgaa
open Go.RowKit

/-- A text as a list of bytes. -/
abbrev B (l : List UInt8) : ByteArray := ⟨l.toArray⟩
/-- A cell: the plain thing. -/
structure Cel where
  row : List UInt8
  col : List UInt8
  ts : Nat
  seq : Nat
  del : Bool
  val : List UInt8
abbrev cells (c : Cel) : Array Value := #[.string (B c.row), .string (B c.col), .int .u64 c.ts, .int .u64 c.seq, .bool c.del, .string (B c.val)]
abbrev cv (c : Cel) : Value := .agg (cells c)
/-- Below everywhere: old memory stays. -/
abbrev Old (w w' : World) : Prop := Below w.heap.size w w'
theorem old_alloc (w : World) (o : Obj) : Old w (w.alloc o) := (Below.refl _ _).alloc (Nat.le_refl _) _
theorem Old.al {w w1 : World} (h : Old w w1) (o : Obj) : Old w (w1.alloc o) := h.alloc h.size _
theorem Old.dr {w w1 : World} (h : Old w w1) : Old w w1.drew := h.drew
theorem Old.dn {w w1 : World} (h : Old w w1) (n : Nat) : Old w (w1.drewN n) := ⟨h.os, h.tape, h.output, h.size, h.block⟩
theorem Old.tr {w w1 w2 : World} (h : Old w w1) (k : Old w1 w2) : Old w w2 := h.trans (k.mono h.size)
theorem Old.st {w w1 : World} (h : Old w w1) {p : Addr} (hp : w.heap.size ≤ p.block) (u : Value) : Old w (w1.setCell p u) := h.setCell hp u
theorem Old.re (w : World) : Old w w := Below.refl _ _
theorem ret_bool {a b : Bool} (h : a = b) : Ending.returned (.bool a) = .returned (.bool b) := by rw [h]
theorem ret_int {k : IntKind} {a b : Int} (h : a = b) : Ending.returned (.int k a) = .returned (.int k b) := by rw [h]
set_option maxHeartbeats 400000 in
theorem isNaNs_any (s : ByteArray) (w : World) :
    Calls Try.prog 46 #[.string s] w fun e w' => e = .returned (.bool false) ∧ w = w' := by
  go_enter Try.func46, Try.ntmps46
  go_wp2
  go_ret
  exact ⟨rfl, rfl⟩
set_option maxHeartbeats 400000 in
theorem isNaNu_any (s : Int) (w : World) :
    Calls Try.prog 47 #[.int .u64 s] w fun e w' => e = .returned (.bool false) ∧ w = w' := by
  go_enter Try.func47, Try.ntmps47
  go_wp2
  go_ret
  exact ⟨rfl, rfl⟩
/-- How two texts stand. -/
def cmpT (s t : List UInt8) : Int := if Op.bytesLess s t then -1 else if s = t then 0 else 1
/-- How two numbers stand. -/
def cmpN (s t : Nat) : Int := if s < t then -1 else if t < s then 1 else 0
set_option maxHeartbeats 400000 in
theorem compares_any (s t : List UInt8) (w : World) :
    Calls Try.prog 41 #[.string (B s), .string (B t)] w fun e w' => e = .returned (.int .i64 (cmpT s t)) ∧ w = w' := by
  go_enter Try.func41, Try.ntmps41
  go_wp2_with (go_at_call 46; refine (isNaNs_any _ _).mono ?_; rintro e w' ⟨rfl, rfl⟩)
  all_goals (go_ret; refine ⟨ret_int ?_, rfl⟩; unfold cmpT; simp_all)
set_option maxHeartbeats 400000 in
theorem compareu_any (s t : Nat) (w : World) :
    Calls Try.prog 42 #[.int .u64 s, .int .u64 t] w fun e w' => e = .returned (.int .i64 (cmpN s t)) ∧ w = w' := by
  go_enter Try.func42, Try.ntmps42
  go_wp2_with (go_at_call 47; refine (isNaNu_any _ _).mono ?_; rintro e w' ⟨rfl, rfl⟩)
  all_goals (go_ret; refine ⟨ret_int ?_, rfl⟩; unfold cmpN; split <;> (try split) <;> omega)
/-- What lay below is read as it was. -/
theorem kept_cell {W w1 : World} (hb : Old W w1) (g o : Nat) (h : g < W.heap.size) : w1.cell? ⟨g, o, none⟩ = W.cell? ⟨g, o, none⟩ := hb.cell (p := ⟨g, o, none⟩) h
set_option maxHeartbeats 400000 in
theorem rtext_any (s t : List UInt8) (w : World) :
    Calls Try.prog 39 #[.string (B s), .string (B t)] w fun e w' => e = .returned (.int .i64 (cmpT s t)) ∧ w = w' := by
  go_enter Try.func39, Try.ntmps39
  go_wp2
  all_goals (go_ret; refine ⟨ret_int ?_, rfl⟩; unfold cmpT; simp_all)
def or4 (a b c d : Int) : Int := if a ≠ 0 then a else if b ≠ 0 then b else if c ≠ 0 then c else d
set_option maxHeartbeats 400000 in
theorem or_any (g : Nat) (x0 x1 x2 x3 : Int) (w : World) (h0 : w.cell? ⟨g, 0, none⟩ = some (.int .i64 x0)) (h1 : w.cell? ⟨g, 1, none⟩ = some (.int .i64 x1)) (h2 : w.cell? ⟨g, 2, none⟩ = some (.int .i64 x2)) (h3 : w.cell? ⟨g, 3, none⟩ = some (.int .i64 x3)) :
    Calls Try.prog 40 #[.slice (some ⟨g, 0, none⟩) 4 4] w fun e w' => e = .returned (.int .i64 (or4 x0 x1 x2 x3)) ∧ w = w' := by
  go_enter Try.func40, Try.ntmps40
  go_wp2
  refine wp_loop_rounds 5 ?_
  repeat any_goals (rw [rounds_succ]; go_wp2)
  all_goals (go_ret; refine ⟨ret_int ?_, rfl⟩; unfold or4; clear h0 h1 h2 h3; simp_all)
def cmpC (a b : Cel) : Int := or4 (cmpT a.row b.row) (cmpT a.col b.col) (cmpN b.ts a.ts) (cmpN b.seq a.seq)
theorem or_new (g t : Nat) (x0 x1 x2 x3 : Int) (W : World) (hg : W.heap.size = g) :
    Calls Try.prog 40 #[.slice (some ⟨g, 0, none⟩) 4 4] (W.alloc (.cells #[.int .i64 x0, .int .i64 x1, .int .i64 x2, .int .i64 x3] t)).drew
      fun e w' => e = .returned (.int .i64 (or4 x0 x1 x2 x3)) ∧ (W.alloc (.cells #[.int .i64 x0, .int .i64 x1, .int .i64 x2, .int .i64 x3] t)).drew = w' := by
  subst hg
  exact or_any _ _ _ _ _ _ (by simp [go_sem]) (by simp [go_sem]) (by simp [go_sem]) (by simp [go_sem])
set_option maxHeartbeats 1000000 in
theorem cmp_any (a b : Cel) (w : World) :
    Calls Try.prog 31 #[cv a, cv b] w fun e w' => e = .returned (.int .i64 (cmpC a b)) ∧ Old w w' := by
  go_enter Try.func31, Try.ntmps31
  go_wp2
  go_region_held3 (fun w' => w'.cell? ⟨w.heap.size, 0, none⟩ = some (.string (B a.row)) ∧ w'.cell? ⟨w.heap.size, 1, none⟩ = some (.string (B a.col)) ∧ w'.cell? ⟨w.heap.size, 2, none⟩ = some (.int .u64 a.ts) ∧ w'.cell? ⟨w.heap.size, 3, none⟩ = some (.int .u64 a.seq) ∧ w'.cell? ⟨w.heap.size + 1, 0, none⟩ = some (.string (B b.row)) ∧ w'.cell? ⟨w.heap.size + 1, 1, none⟩ = some (.string (B b.col)) ∧ w'.cell? ⟨w.heap.size + 1, 2, none⟩ = some (.int .u64 b.ts) ∧ w'.cell? ⟨w.heap.size + 1, 3, none⟩ = some (.int .u64 b.seq)) (simp [go_sem, World.cell?_alloc_past])
    (first
      | (go_at_call 41; refine (compares_any _ _ _).mono ?_; rintro e w' ⟨rfl, rfl⟩)
      | (go_at_call 42; refine (compareu_any _ _ _).mono ?_; rintro e w' ⟨rfl, rfl⟩)
      | (go_at_call 40; refine (or_new _ _ _ _ _ _ _ (by simp)).mono ?_; rintro e w' ⟨rfl, rfl⟩))
  go_wp2
  go_ret
  exact ⟨rfl, ((((Old.re _).al _).al _).al _).dr⟩
set_option maxHeartbeats 1000000 in
theorem rcmp_any (a b : Cel) (w : World) :
    Calls Try.prog 30 #[cv a, cv b] w fun e w' => e = .returned (.int .i64 (cmpC a b)) ∧ Old w w' := by
  go_enter Try.func30, Try.ntmps30
  go_wp2_with (go_at_call 39; refine (rtext_any _ _ _).mono ?_; rintro e w' ⟨rfl, rfl⟩)
  all_goals (go_ret; refine ⟨ret_int ?_, ((Old.re _).al _).al _⟩; go_light; unfold cmpC or4)
  all_goals (simp only [bne_iff_ne, ne_eq, bne_eq_false_iff_eq] at *)
  all_goals simp only [*, not_true_eq_false, not_false_eq_true, if_true, if_false]
  all_goals (unfold cmpN; split <;> (try split) <;> (try split) <;> (try split) <;> omega)
def eqB (a b : Cel) : Bool := a.row == b.row && a.col == b.col && a.ts == b.ts && a.seq == b.seq && a.del == b.del && a.val == b.val
theorem eqB_iff (a b : Cel) : eqB a b = true ↔ a = b := by
  obtain ⟨r, c, t, s, d, v⟩ := a
  obtain ⟨r', c', t', s', d', v'⟩ := b
  simp [eqB, and_assoc]
theorem cast_ne {a b : Nat} (h : ¬ a = b) : ¬ ((a : Int) = b) := by omega
/-- Block g holds just these cells, of this type, none of them frozen. -/
def Bk (w : World) (g : Nat) (t : TypeId) (cs : Array Value) : Prop := w.heap[g]? = some (.cells cs t (0, 0))
theorem Bk.cell {w : World} {g : Nat} {t : TypeId} {cs : Array Value} (h : Bk w g t cs) (o : Nat) : w.cell? ⟨g, o, none⟩ = cs[o]? := cell_of_row w g o cs t (0, 0) h
theorem Bk.fr {w : World} {g : Nat} {t : TypeId} {cs : Array Value} (h : Bk w g t cs) (o : Nat) : w.frozen? ⟨g, o, none⟩ = false := by
  unfold Bk at h
  simp [World.frozen?, h]
theorem Bk.lt {w : World} {g : Nat} {t : TypeId} {cs : Array Value} (h : Bk w g t cs) : g < w.heap.size := by
  rcases Nat.lt_or_ge g w.heap.size with h1 | h1
  · exact h1
  · unfold Bk at h; rw [Array.getElem?_eq_none h1] at h; cases h
theorem Bk.far {w : World} {g : Nat} {t : TypeId} {cs : Array Value} (h : Bk w g t cs) {p : Addr} (hp : g ≠ p.block) (u : Value) : Bk (w.setCell p u) g t cs :=
  (Below.heap_setCell w p u g hp).trans h
theorem Bk.set_ {w : World} {g : Nat} {t : TypeId} {cs : Array Value} (h : Bk w g t cs) (o : Nat) (u : Value) : Bk (w.setCell ⟨g, o, none⟩ u) g t (cs.setIfInBounds o u) := by
  unfold Bk at *
  simp [World.setCell, Array.getElem?_modify, h]
theorem Bk.old {w w' : World} {g : Nat} {t : TypeId} {cs : Array Value} (h : Bk w g t cs) (hb : Old w w') : Bk w' g t cs := (hb.block g h.lt).trans h
theorem Bk.drew {w : World} {g : Nat} {t : TypeId} {cs : Array Value} (h : Bk w g t cs) : Bk w.drew g t cs := h
theorem Bk.alloc {w : World} {g : Nat} {t : TypeId} {cs : Array Value} (h : Bk w g t cs) (o : Obj) : Bk (w.alloc o) g t cs := h.old (old_alloc _ _)
theorem new_bk (w : World) (t : TypeId) (cs : Array Value) : Bk (w.alloc (.cells cs t)) w.heap.size t cs := heap_alloc_new w _
end Go.Proofs.Ytohokmfbcehkgaa
