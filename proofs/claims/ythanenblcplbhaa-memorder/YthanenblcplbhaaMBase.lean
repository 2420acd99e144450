/-
  The values of cells and texts, and the contracts of the functions that only look: bounded, namesOf, isNaN, Compare, text. No conditions but those written.
-/
import Derived.Test.YthanenblcplbhaaRows
import Derived.WalkKit
import Derived.WalkSpells
import Derived.WalkLawsBesides
import Derived.Lib.Hide
import Derived.Deep.RegionHeld3
import Derived.Deep.QuietTactic
import Derived.BigQuiet
import Derived.Deep.Light
namespace Go.Proofs.Ythanenblcplbhaa
open Go.RowKit

/-- A text as a list of bytes. -/
abbrev B (l : List UInt8) : ByteArray := ⟨l.toArray⟩

/-- A cell: the plain thing. -/
structure Cel where
  row : List UInt8
  col : List UInt8
  ts : Nat
  seq : Nat
  del : Bool
  val : List UInt8

abbrev cells (c : Cel) : Array Value := #[.string (B c.row), .string (B c.col), .int .u64 c.ts, .int .u64 c.seq, .bool c.del, .string (B c.val)]
abbrev cv (c : Cel) : Value := .agg (cells c)

/-- Below everywhere: old memory stays. -/
abbrev Old (w w' : World) : Prop := Below w.heap.size w w'

def boundedB (c : Cel) : Bool := decide (c.row.length ≤ 200) && decide (c.col.length ≤ 200) && decide (c.val.length ≤ 300)


theorem old_alloc (w : World) (o : Obj) : Old w (w.alloc o) := (Below.refl _ _).alloc (Nat.le_refl _) _
theorem Old.al {w w1 : World} (h : Old w w1) (o : Obj) : Old w (w1.alloc o) := h.alloc h.size _
theorem Old.dr {w w1 : World} (h : Old w w1) : Old w w1.drew := h.drew
theorem Old.dn {w w1 : World} (h : Old w w1) (n : Nat) : Old w (w1.drewN n) := ⟨h.os, h.tape, h.output, h.size, h.block⟩
theorem Old.tr {w w1 w2 : World} (h : Old w w1) (k : Old w1 w2) : Old w w2 := h.trans (k.mono h.size)
theorem Old.st {w w1 : World} (h : Old w w1) {p : Addr} (hp : w.heap.size ≤ p.block) (u : Value) : Old w (w1.setCell p u) := h.setCell hp u
theorem Old.re (w : World) : Old w w := Below.refl _ _
theorem ret_bool {a b : Bool} (h : a = b) : Ending.returned (.bool a) = .returned (.bool b) := by rw [h]
theorem ret_int {k : IntKind} {a b : Int} (h : a = b) : Ending.returned (.int k a) = .returned (.int k b) := by rw [h]

set_option maxHeartbeats 400000 in
theorem namesOf_any (c : Cel) (w : World) :
    Calls Try.prog 36 #[cv c] w fun e w' => e = .returned (.agg #[.string (B c.row), .string (B c.col)]) ∧ w' = (w.alloc (.cells (cells c) 31)).alloc (.cells #[.string (B c.row), .string (B c.col)] 58) := by
  go_enter Try.func36, Try.ntmps36
  go_wp2
  exact bodyPost_ret (v := .agg #[.string (B c.row), .string (B c.col)]) (by simp [results, Try.results36, go_sem]) rfl ⟨rfl, rfl⟩

set_option maxHeartbeats 400000 in
theorem isNaNs_any (s : ByteArray) (w : World) :
    Calls Try.prog 46 #[.string s] w fun e w' => e = .returned (.bool false) ∧ w = w' := by
  go_enter Try.func46, Try.ntmps46
  go_wp2
  go_ret
  exact ⟨rfl, rfl⟩
set_option maxHeartbeats 400000 in
theorem isNaNu_any (s : Int) (w : World) :
    Calls Try.prog 52 #[.int .u64 s] w fun e w' => e = .returned (.bool false) ∧ w = w' := by
  go_enter Try.func52, Try.ntmps52
  go_wp2
  go_ret
  exact ⟨rfl, rfl⟩


/-- How two texts stand. -/
def cmpT (s t : List UInt8) : Int := if Op.bytesLess s t then -1 else if s = t then 0 else 1
/-- How two numbers stand. -/
def cmpN (s t : Nat) : Int := if s < t then -1 else if t < s then 1 else 0

set_option maxHeartbeats 400000 in
theorem compares_any (s t : List UInt8) (w : World) :
    Calls Try.prog 32 #[.string (B s), .string (B t)] w fun e w' => e = .returned (.int .i64 (cmpT s t)) ∧ w = w' := by
  go_enter Try.func32, Try.ntmps32
  go_wp2_with (go_at_call 46; refine (isNaNs_any _ _).mono ?_; rintro e w' ⟨rfl, rfl⟩)
  all_goals (go_ret; refine ⟨ret_int ?_, rfl⟩; unfold cmpT; simp_all)

set_option maxHeartbeats 400000 in
theorem compareu_any (s t : Nat) (w : World) :
    Calls Try.prog 49 #[.int .u64 s, .int .u64 t] w fun e w' => e = .returned (.int .i64 (cmpN s t)) ∧ w = w' := by
  go_enter Try.func49, Try.ntmps49
  go_wp2_with (go_at_call 52; refine (isNaNu_any _ _).mono ?_; rintro e w' ⟨rfl, rfl⟩)
  all_goals (go_ret; refine ⟨ret_int ?_, rfl⟩; unfold cmpN; split <;> (try split) <;> omega)

def mayB (c : Cel) : Bool := decide (1 ≤ c.row.length) && decide (c.row.length ≤ 40) && decide (1 ≤ c.col.length) && decide (c.col.length ≤ 40) && decide (c.val.length ≤ 100) && (!c.del || c.val.isEmpty)

/-- What lay below is read as it was. -/
theorem kept_cell {W w1 : World} (hb : Old W w1) (g o : Nat) (h : g < W.heap.size) : w1.cell? ⟨g, o, none⟩ = W.cell? ⟨g, o, none⟩ := hb.cell (p := ⟨g, o, none⟩) h

theorem idx0 (a b : Value) (w : World) : (Instr.index 58 (.agg #[a, b]) (.int .i64 0)).run Try.prog w = .ok a w := by kernel_rfl
theorem idx1 (a b : Value) (w : World) : (Instr.index 58 (.agg #[a, b]) (.int .i64 1)).run Try.prog w = .ok b w := by kernel_rfl


theorem mayB_no (c : Cel) (h : c.row.length < 1 ∨ 40 < c.row.length ∨ c.col.length < 1 ∨ 40 < c.col.length ∨ 100 < c.val.length) : false = mayB c := by
  symm
  unfold mayB
  by_cases h1 : 1 ≤ c.row.length <;> by_cases h2 : c.row.length ≤ 40 <;> by_cases h3 : 1 ≤ c.col.length <;> by_cases h4 : c.col.length ≤ 40 <;> by_cases h5 : c.val.length ≤ 100 <;> first | omega | simp [h1, h2, h3, h4, h5]
theorem mayB_yes (c : Cel) (h1 : 1 ≤ c.row.length) (h2 : c.row.length ≤ 40) (h3 : 1 ≤ c.col.length) (h4 : c.col.length ≤ 40) (h5 : c.val.length ≤ 100) : mayB c = (!c.del || c.val.isEmpty) := by
  unfold mayB
  simp [h1, h2, h3, h4, h5]

set_option maxHeartbeats 400000 in
theorem may_any (c : Cel) (w : World) :
    Calls Try.prog 35 #[cv c] w fun e w' => e = .returned (.bool (mayB c)) ∧ Old w w' := by
  have x0 := fun w => idx0 (.string (B c.row)) (.string (B c.col)) w
  have x1 := fun w => idx1 (.string (B c.row)) (.string (B c.col)) w
  go_enter Try.func35, Try.ntmps35
  go_wp2_with (go_at_call 36; refine (namesOf_any c _).mono ?_; rintro e w1 ⟨rfl, rfl⟩)
  refine wp_loop_rounds 3 ?_
  repeat any_goals (rw [rounds_succ]; go_wp2)
  all_goals go_ret
  all_goals (refine ⟨ret_bool ?_, (((Old.re _).al _).al _).al _⟩)
  all_goals (clear x0 x1; go_light)
  all_goals first
    | exact mayB_no c (by omega)
    | (rw [mayB_yes c (by omega) (by omega) (by omega) (by omega) (by omega)]; simp [*])

set_option maxHeartbeats 400000 in
theorem rmay_any (c : Cel) (w : World) :
    Calls Try.prog 26 #[cv c] w fun e w' => e = .returned (.bool (mayB c)) ∧ Old w w' := by
  go_enter Try.func26, Try.ntmps26
  go_wp2
  all_goals go_ret
  all_goals (refine ⟨ret_bool ?_, old_alloc _ _⟩)
  all_goals go_light
  all_goals first
    | exact mayB_no c (by omega)
    | (rw [mayB_yes c (by omega) (by omega) (by omega) (by omega) (by omega)]; simp [*])

set_option maxHeartbeats 400000 in
theorem rtext_any (s t : List UInt8) (w : World) :
    Calls Try.prog 44 #[.string (B s), .string (B t)] w fun e w' => e = .returned (.int .i64 (cmpT s t)) ∧ w = w' := by
  go_enter Try.func44, Try.ntmps44
  go_wp2
  all_goals (go_ret; refine ⟨ret_int ?_, rfl⟩; unfold cmpT; simp_all)

def or4 (a b c d : Int) : Int := if a ≠ 0 then a else if b ≠ 0 then b else if c ≠ 0 then c else d

set_option maxHeartbeats 400000 in
theorem or_any (g : Nat) (x0 x1 x2 x3 : Int) (w : World) (h0 : w.cell? ⟨g, 0, none⟩ = some (.int .i64 x0)) (h1 : w.cell? ⟨g, 1, none⟩ = some (.int .i64 x1)) (h2 : w.cell? ⟨g, 2, none⟩ = some (.int .i64 x2)) (h3 : w.cell? ⟨g, 3, none⟩ = some (.int .i64 x3)) :
    Calls Try.prog 48 #[.slice (some ⟨g, 0, none⟩) 4 4] w fun e w' => e = .returned (.int .i64 (or4 x0 x1 x2 x3)) ∧ w = w' := by
  go_enter Try.func48, Try.ntmps48
  go_wp2
  refine wp_loop_rounds 5 ?_
  repeat any_goals (rw [rounds_succ]; go_wp2)
  all_goals (go_ret; refine ⟨ret_int ?_, rfl⟩; unfold or4; clear h0 h1 h2 h3; simp_all)

def cmpC (a b : Cel) : Int := or4 (cmpT a.row b.row) (cmpT a.col b.col) (cmpN b.ts a.ts) (cmpN b.seq a.seq)

end Go.Proofs.Ythanenblcplbhaa
