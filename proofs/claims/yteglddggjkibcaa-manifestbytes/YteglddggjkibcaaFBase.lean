/-
  The values of files and texts, and the contracts of the functions that only look: isNaN, Compare, Or, how two files stand. No conditions but those written.
-/
import Derived.Test.YteglddggjkibcaaRows
import Derived.WalkKit
import Derived.WalkSpells
import Derived.WalkLawsBesides
import Derived.Lib.Hide
import Derived.Deep.RegionHeld3
import Derived.Deep.QuietTactic
import Derived.BigQuiet
import Derived.Deep.Light
namespace Go.Proofs.Yteglddggjkibcaa
open Go.RowKit

/-- A text as a list of bytes. -/
abbrev B (l : List UInt8) : ByteArray := ⟨l.toArray⟩

/-- A file: the plain thing. -/
structure Itm where
  lev : Int
  name : List UInt8
  low : List UInt8
  high : List UInt8
  many : Int
  deriving DecidableEq

abbrev icells (c : Itm) : Array Value := #[.int .i64 c.lev, .string (B c.name), .string (B c.low), .string (B c.high), .int .i64 c.many]
abbrev iv (c : Itm) : Value := .agg (icells c)
abbrev zeroItem : Array Value := #[.int .i64 0, .string ByteArray.empty, .string ByteArray.empty, .string ByteArray.empty, .int .i64 0]

/-- Below everywhere: old memory stays. -/
abbrev Old (w w' : World) : Prop := Below w.heap.size w w'

theorem old_alloc (w : World) (o : Obj) : Old w (w.alloc o) := (Below.refl _ _).alloc (Nat.le_refl _) _
theorem Old.al {w w1 : World} (h : Old w w1) (o : Obj) : Old w (w1.alloc o) := h.alloc h.size _
theorem Old.dr {w w1 : World} (h : Old w w1) : Old w w1.drew := h.drew
theorem Old.dn {w w1 : World} (h : Old w w1) (n : Nat) : Old w (w1.drewN n) := ⟨h.os, h.tape, h.output, h.size, h.block⟩
theorem Old.tr {w w1 w2 : World} (h : Old w w1) (k : Old w1 w2) : Old w w2 := h.trans (k.mono h.size)
theorem Old.st {w w1 : World} (h : Old w w1) {p : Addr} (hp : w.heap.size ≤ p.block) (u : Value) : Old w (w1.setCell p u) := h.setCell hp u
theorem Old.re (w : World) : Old w w := Below.refl _ _
theorem ret_bool {a b : Bool} (h : a = b) : Ending.returned (.bool a) = .returned (.bool b) := by rw [h]
theorem ret_int {k : IntKind} {a b : Int} (h : a = b) : Ending.returned (.int k a) = .returned (.int k b) := by rw [h]
/-- What lay below is read as it was. -/
theorem kept_cell {W w1 : World} (hb : Old W w1) (g o : Nat) (h : g < W.heap.size) : w1.cell? ⟨g, o, none⟩ = W.cell? ⟨g, o, none⟩ := hb.cell (p := ⟨g, o, none⟩) h

/-- How two texts stand. -/
def cmpT (s t : List UInt8) : Int := if Op.bytesLess s t then -1 else if s = t then 0 else 1
/-- How two whole numbers stand. -/
def cmpZ (s t : Int) : Int := if s < t then -1 else if t < s then 1 else 0
def or3 (a b c : Int) : Int := if a ≠ 0 then a else if b ≠ 0 then b else c

set_option maxHeartbeats 400000 in
theorem isNaNs_any (s : ByteArray) (w : World) :
    Calls Try.prog 74 #[.string s] w fun e w' => e = .returned (.bool false) ∧ w = w' := by
  go_enter Try.func74, Try.ntmps74
  go_wp2
  go_ret
  exact ⟨rfl, rfl⟩
set_option maxHeartbeats 400000 in
theorem isNaNi_any (s : Int) (w : World) :
    Calls Try.prog 73 #[.int .i64 s] w fun e w' => e = .returned (.bool false) ∧ w = w' := by
  go_enter Try.func73, Try.ntmps73
  go_wp2
  go_ret
  exact ⟨rfl, rfl⟩
set_option maxHeartbeats 400000 in
theorem compares_any (s t : List UInt8) (w : World) :
    Calls Try.prog 65 #[.string (B s), .string (B t)] w fun e w' => e = .returned (.int .i64 (cmpT s t)) ∧ w = w' := by
  go_enter Try.func65, Try.ntmps65
  go_wp2_with (go_at_call 74; refine (isNaNs_any _ _).mono ?_; rintro e w' ⟨rfl, rfl⟩)
  all_goals (go_ret; refine ⟨ret_int ?_, rfl⟩; unfold cmpT; simp_all)
set_option maxHeartbeats 400000 in
theorem comparei_any (s t : Int) (w : World) :
    Calls Try.prog 64 #[.int .i64 s, .int .i64 t] w fun e w' => e = .returned (.int .i64 (cmpZ s t)) ∧ w = w' := by
  go_enter Try.func64, Try.ntmps64
  go_wp2_with (go_at_call 73; refine (isNaNi_any _ _).mono ?_; rintro e w' ⟨rfl, rfl⟩)
  all_goals (go_ret; refine ⟨ret_int ?_, rfl⟩; unfold cmpZ; split <;> (try split) <;> omega)
set_option maxHeartbeats 400000 in
theorem or_any (g : Nat) (x0 x1 x2 : Int) (w : World) (h0 : w.cell? ⟨g, 0, none⟩ = some (.int .i64 x0)) (h1 : w.cell? ⟨g, 1, none⟩ = some (.int .i64 x1)) (h2 : w.cell? ⟨g, 2, none⟩ = some (.int .i64 x2)) :
    Calls Try.prog 63 #[.slice (some ⟨g, 0, none⟩) 3 3] w fun e w' => e = .returned (.int .i64 (or3 x0 x1 x2)) ∧ w = w' := by
  go_enter Try.func63, Try.ntmps63
  go_wp2
  refine wp_loop_rounds 4 ?_
  repeat any_goals (rw [rounds_succ]; go_wp2)
  all_goals (go_ret; refine ⟨ret_int ?_, rfl⟩; unfold or3; clear h0 h1 h2; simp_all)
/-- How two files stand. -/
def cmpI (a b : Itm) : Int := or3 (cmpZ a.lev b.lev) (cmpT a.low b.low) (cmpT a.name b.name)
end Go.Proofs.Yteglddggjkibcaa
