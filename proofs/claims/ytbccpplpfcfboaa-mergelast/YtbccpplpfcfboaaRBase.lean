/-
  The values of cells and texts, and the contracts of the functions that only look: bounded, namesOf, isNaN, Compare, text. No conditions but those written.
-/
import Derived.Test.YtbccpplpfcfboaaRows
import Derived.WalkKit
import Derived.WalkSpells
import Derived.WalkLawsBesides
import Derived.Lib.Hide
import Derived.Deep.RegionHeld3
import Derived.Deep.QuietTactic
import Derived.BigQuiet
import Derived.Deep.Light
namespace Go.Proofs.Ytbccpplpfcfboaa
open Go.RowKit

/-- A text as a list of bytes. -/
abbrev B (l : List UInt8) : ByteArray := ⟨l.toArray⟩

/-- A cell: the plain thing. -/
structure Cel where
  row : List UInt8
  col : List UInt8
  ts : Nat
  seq : Nat
  del : Bool
  val : List UInt8

abbrev cells (c : Cel) : Array Value := #[.string (B c.row), .string (B c.col), .int .u64 c.ts, .int .u64 c.seq, .bool c.del, .string (B c.val)]
abbrev cv (c : Cel) : Value := .agg (cells c)

/-- Below everywhere: old memory stays. -/
abbrev Old (w w' : World) : Prop := Below w.heap.size w w'

theorem old_alloc (w : World) (o : Obj) : Old w (w.alloc o) := (Below.refl _ _).alloc (Nat.le_refl _) _
theorem Old.al {w w1 : World} (h : Old w w1) (o : Obj) : Old w (w1.alloc o) := h.alloc h.size _
theorem Old.dr {w w1 : World} (h : Old w w1) : Old w w1.drew := h.drew
theorem Old.dn {w w1 : World} (h : Old w w1) (n : Nat) : Old w (w1.drewN n) := ⟨h.os, h.tape, h.output, h.size, h.block⟩
theorem Old.tr {w w1 w2 : World} (h : Old w w1) (k : Old w1 w2) : Old w w2 := h.trans (k.mono h.size)
theorem Old.st {w w1 : World} (h : Old w w1) {p : Addr} (hp : w.heap.size ≤ p.block) (u : Value) : Old w (w1.setCell p u) := h.setCell hp u
theorem Old.re (w : World) : Old w w := Below.refl _ _
theorem ret_bool {a b : Bool} (h : a = b) : Ending.returned (.bool a) = .returned (.bool b) := by rw [h]
theorem ret_int {k : IntKind} {a b : Int} (h : a = b) : Ending.returned (.int k a) = .returned (.int k b) := by rw [h]

set_option maxHeartbeats 400000 in
theorem namesOf_any (c : Cel) (w : World) :
    Calls Try.prog 65 #[cv c] w fun e w' => e = .returned (.agg #[.string (B c.row), .string (B c.col)]) ∧ w' = (w.alloc (.cells (cells c) 53)).alloc (.cells #[.string (B c.row), .string (B c.col)] 102) := by
  go_enter Try.func65, Try.ntmps65
  go_wp2
  exact bodyPost_ret (v := .agg #[.string (B c.row), .string (B c.col)]) (by simp [results, Try.results65, go_sem]) rfl ⟨rfl, rfl⟩

set_option maxHeartbeats 400000 in
theorem isNaNs_any (s : ByteArray) (w : World) :
    Calls Try.prog 68 #[.string s] w fun e w' => e = .returned (.bool false) ∧ w = w' := by
  go_enter Try.func68, Try.ntmps68
  go_wp2
  go_ret
  exact ⟨rfl, rfl⟩
set_option maxHeartbeats 400000 in
theorem isNaNu_any (s : Int) (w : World) :
    Calls Try.prog 69 #[.int .u64 s] w fun e w' => e = .returned (.bool false) ∧ w = w' := by
  go_enter Try.func69, Try.ntmps69
  go_wp2
  go_ret
  exact ⟨rfl, rfl⟩


/-- How two texts stand. -/
def cmpT (s t : List UInt8) : Int := if Op.bytesLess s t then -1 else if s = t then 0 else 1
/-- How two numbers stand. -/
def cmpN (s t : Nat) : Int := if s < t then -1 else if t < s then 1 else 0

set_option maxHeartbeats 400000 in
theorem compares_any (s t : List UInt8) (w : World) :
    Calls Try.prog 60 #[.string (B s), .string (B t)] w fun e w' => e = .returned (.int .i64 (cmpT s t)) ∧ w = w' := by
  go_enter Try.func60, Try.ntmps60
  go_wp2_with (go_at_call 68; refine (isNaNs_any _ _).mono ?_; rintro e w' ⟨rfl, rfl⟩)
  all_goals (go_ret; refine ⟨ret_int ?_, rfl⟩; unfold cmpT; simp_all)

set_option maxHeartbeats 400000 in
theorem compareu_any (s t : Nat) (w : World) :
    Calls Try.prog 61 #[.int .u64 s, .int .u64 t] w fun e w' => e = .returned (.int .i64 (cmpN s t)) ∧ w = w' := by
  go_enter Try.func61, Try.ntmps61
  go_wp2_with (go_at_call 69; refine (isNaNu_any _ _).mono ?_; rintro e w' ⟨rfl, rfl⟩)
  all_goals (go_ret; refine ⟨ret_int ?_, rfl⟩; unfold cmpN; split <;> (try split) <;> omega)

/-- What lay below is read as it was. -/
theorem kept_cell {W w1 : World} (hb : Old W w1) (g o : Nat) (h : g < W.heap.size) : w1.cell? ⟨g, o, none⟩ = W.cell? ⟨g, o, none⟩ := hb.cell (p := ⟨g, o, none⟩) h

set_option maxHeartbeats 400000 in
theorem rtext_any (s t : List UInt8) (w : World) :
    Calls Try.prog 45 #[.string (B s), .string (B t)] w fun e w' => e = .returned (.int .i64 (cmpT s t)) ∧ w = w' := by
  go_enter Try.func45, Try.ntmps45
  go_wp2
  all_goals (go_ret; refine ⟨ret_int ?_, rfl⟩; unfold cmpT; simp_all)

/-- How two whole numbers stand. -/
def cmpZ (s t : Int) : Int := if s < t then -1 else if t < s then 1 else 0
set_option maxHeartbeats 400000 in
theorem isNaNi_any (s : Int) (w : World) :
    Calls Try.prog 70 #[.int .i64 s] w fun e w' => e = .returned (.bool false) ∧ w = w' := by
  go_enter Try.func70, Try.ntmps70
  go_wp2
  go_ret
  exact ⟨rfl, rfl⟩
set_option maxHeartbeats 400000 in
theorem comparei_any (s t : Int) (w : World) :
    Calls Try.prog 62 #[.int .i64 s, .int .i64 t] w fun e w' => e = .returned (.int .i64 (cmpZ s t)) ∧ w = w' := by
  go_enter Try.func62, Try.ntmps62
  go_wp2_with (go_at_call 70; refine (isNaNi_any _ _).mono ?_; rintro e w' ⟨rfl, rfl⟩)
  all_goals (go_ret; refine ⟨ret_int ?_, rfl⟩; unfold cmpZ; split <;> (try split) <;> omega)

def or4 (a b c d : Int) : Int := if a ≠ 0 then a else if b ≠ 0 then b else if c ≠ 0 then c else d

set_option maxHeartbeats 400000 in
theorem or_any (g : Nat) (x0 x1 x2 x3 : Int) (w : World) (h0 : w.cell? ⟨g, 0, none⟩ = some (.int .i64 x0)) (h1 : w.cell? ⟨g, 1, none⟩ = some (.int .i64 x1)) (h2 : w.cell? ⟨g, 2, none⟩ = some (.int .i64 x2)) (h3 : w.cell? ⟨g, 3, none⟩ = some (.int .i64 x3)) :
    Calls Try.prog 59 #[.slice (some ⟨g, 0, none⟩) 4 4] w fun e w' => e = .returned (.int .i64 (or4 x0 x1 x2 x3)) ∧ w = w' := by
  go_enter Try.func59, Try.ntmps59
  go_wp2
  refine wp_loop_rounds 5 ?_
  repeat any_goals (rw [rounds_succ]; go_wp2)
  all_goals (go_ret; refine ⟨ret_int ?_, rfl⟩; unfold or4; clear h0 h1 h2 h3; simp_all)

def cmpC (a b : Cel) : Int := or4 (cmpT a.row b.row) (cmpT a.col b.col) (cmpN b.ts a.ts) (cmpN b.seq a.seq)

def sameB (a b : Cel) : Bool := a.row == b.row && a.col == b.col && a.ts == b.ts
/-- An item: a cell, and where it stands. -/
structure Itm where
  c : Cel
  pos : Int
abbrev icells (x : Itm) : Array Value := #[.string (B x.c.row), .string (B x.c.col), .int .u64 x.c.ts, .int .u64 x.c.seq, .bool x.c.del, .string (B x.c.val), .int .i64 x.pos]
abbrev iv (x : Itm) : Value := .agg (icells x)
/-- How two items stand. -/
def cmpI (a b : Itm) : Int := or4 (cmpT a.c.row b.c.row) (cmpT a.c.col b.c.col) (cmpN b.c.ts a.c.ts) (cmpZ b.pos a.pos)

end Go.Proofs.Ytbccpplpfcfboaa
