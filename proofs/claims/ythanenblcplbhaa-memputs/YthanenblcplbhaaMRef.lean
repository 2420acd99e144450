/-
  The reference's parts of keys: name, Number, value, part. Conditions: lengths as written.
-/
import Derived.Test.YthanenblcplbhaaMCut
namespace Go.Proofs.Ythanenblcplbhaa
open Go.RowKit

/-- A block of bytes that the call made, as a slice over all of it. -/
theorem Own.blk {w : World} {base g : Nat} {l : List UInt8} (hb : base ≤ g) (h : Bk w g 5 (bs l).toArray) (hl : l.length ≤ 1000) : Own w base (.slice (some ⟨g, 0, none⟩) l.length l.length) l := by
  refine ⟨by simp [bs_length], .inr ⟨g, l.length, (bs l).toArray, rfl, hb, h, Nat.le_refl _, by unfold maxLen; omega, by simp [bs_length], ?_⟩⟩
  simp only [Nat.mul_one]
  rw [List.take_of_length_le (by simp [bs_length])]

abbrev zero8 : Array Value := #[.int .u8 0, .int .u8 0, .int .u8 0, .int .u8 0, .int .u8 0, .int .u8 0, .int .u8 0, .int .u8 0]
theorem run_make8 (w : World) : (Instr.makeSlice 56 (.int .i64 8) (.int .i64 8)).run Try.prog w = .ok (.slice (some ⟨w.heap.size, 0, none⟩) 8 8) (w.alloc (.cells zero8 5)) := by
  obtain ⟨i0, hi, hz0, hz1, hz2⟩ := info_parts Try.info5
  have h := run_make (P := Try.prog) w 56 5 i0 (.int .u8 0) Try.underlying56 hi hz0 .i64 .i64 8 8 (by omega) (by omega) (by rw [hz2]; omega) (by omega)
  have h2 : madeCells (Value.int IntKind.u8 0).cells (Int.toNat 8 * 1) = zero8 := by kernel_rfl
  rw [h, hz1, h2]
  rfl

theorem low8_cells (n : Nat) : (#[.int .u8 ((n : Int) % 256), .int .u8 ((n : Int) / 256 % 256), .int .u8 ((n : Int) / 256 / 256 % 256), .int .u8 ((n : Int) / 256 / 256 / 256 % 256), .int .u8 ((n : Int) / 256 / 256 / 256 / 256 % 256), .int .u8 ((n : Int) / 256 / 256 / 256 / 256 / 256 % 256), .int .u8 ((n : Int) / 256 / 256 / 256 / 256 / 256 / 256 % 256), .int .u8 ((n : Int) / 256 / 256 / 256 / 256 / 256 / 256 / 256 % 256)] : Array Value) = (bs (low8 n)).toArray := by
  simp only [bs, low8, List.map_cons, List.map_nil, UInt8.toNat_ofNat', Array.mk.injEq, List.cons.injEq, Value.int.injEq, true_and, and_true]
  omega
theorem high8_cells (n : Nat) : (#[.int .u8 ((n : Int) / 256 / 256 / 256 / 256 / 256 / 256 / 256 % 256), .int .u8 ((n : Int) / 256 / 256 / 256 / 256 / 256 / 256 % 256), .int .u8 ((n : Int) / 256 / 256 / 256 / 256 / 256 % 256), .int .u8 ((n : Int) / 256 / 256 / 256 / 256 % 256), .int .u8 ((n : Int) / 256 / 256 / 256 % 256), .int .u8 ((n : Int) / 256 / 256 % 256), .int .u8 ((n : Int) / 256 % 256), .int .u8 ((n : Int) % 256)] : Array Value) = (bs (high8 n)).toArray := by
  simp only [bs, high8, List.map_cons, List.map_nil, UInt8.toNat_ofNat', Array.mk.injEq, List.cons.injEq, Value.int.injEq, true_and, and_true]
  omega

def num8 (n : Nat) (h : Bool) : List UInt8 := if h then high8 n else low8 n

set_option maxHeartbeats 2000000 in
theorem rnumber_any (n : Nat) (h : Bool) (w : World) (hn : n < 18446744073709551616) :
    Calls Try.prog 47 #[.int .u64 n, .bool h] w fun e w' => e = .returned (.string (B (num8 n h))) ∧ Old w w' := by
  have hmk := run_make8
  cases h
  · go_enter Try.func47, Try.ntmps47
    go_wp2_with fail
    refine wp_loop_rounds 9 ?_
    iterate 8 (rw [rounds_succ]; go_wp2)
    rw [rounds_succ]
    go_upto_region 10 with (fail)
    rw [low8_cells]
    have hB := new_bk w 5 (bs (low8 n)).toArray
    have hO : Old w (w.alloc (.cells (bs (low8 n)).toArray 5)) := (Old.re _).al _
    generalize w.alloc (.cells (bs (low8 n)).toArray 5) = w1 at *
    have hcv : (convert 56 9 (.slice (some ⟨w.heap.size, 0, none⟩) 8 8)).run Try.prog w1 = .ok (.string (B (low8 n))) w1 := run_str (Own.blk (l := low8 n) (Nat.le_refl _) hB (by simp [low8]))
    go_wp2
    go_ret
    exact ⟨rfl, hO⟩
  · go_enter Try.func47, Try.ntmps47
    go_wp2_with fail
    refine wp_loop_rounds 9 ?_
    iterate 8 (rw [rounds_succ]; go_wp2)
    rw [rounds_succ]
    go_upto_region 10 with (fail)
    rw [high8_cells]
    have hB := new_bk w 5 (bs (high8 n)).toArray
    have hO : Old w (w.alloc (.cells (bs (high8 n)).toArray 5)) := (Old.re _).al _
    generalize w.alloc (.cells (bs (high8 n)).toArray 5) = w1 at *
    have hcv : (convert 56 9 (.slice (some ⟨w.heap.size, 0, none⟩) 8 8)).run Try.prog w1 = .ok (.string (B (high8 n))) w1 := run_str (Own.blk (l := high8 n) (Nat.le_refl _) hB (by simp [high8]))
    go_wp2
    go_ret
    exact ⟨rfl, hO⟩

theorem step_val (a b k : Nat) (ha : a < 256 ^ k) (hb : b < 256) (hk : k < 8) :
    IntKind.u64.wrap (IntKind.u64.wrap ((a : Int) * 256) + IntKind.u64.wrap (b : Int)) = ((a * 256 + b : Nat) : Int) := by
  have h7 : 256 ^ k ≤ 256 ^ 7 := Nat.pow_le_pow_right (by omega) (by omega)
  rw [wrap_u64_id b (by omega)]
  have e : ((a : Int) * 256) = ((a * 256 : Nat) : Int) := by simp
  rw [e, wrap_u64_id _ (by omega), ← Int.natCast_add, wrap_u64_id _ (by omega)]

/-- A name at the beginning of a key, and how many bytes it takes. -/
def partV (s : List UInt8) : Value := match cutM s with
  | some x => .tuple #[.string (B x.1), .int .i64 ((s.length - x.2.length : Nat) : Int)]
  | none => .tuple #[.string ⟨#[]⟩, .int .i64 0]

/-- What the reference's Key answers. -/
def rkeyB (c : Cel) : List UInt8 := if mayB c then key c else []

theorem six_held {w W : World} {c : Cel} (h : Bk W w.heap.size 31 (cells c) ∧ Old w W) :
    (Bk W w.heap.size 31 (cells c) ∧ Old w W) ∧ W.cell? ⟨w.heap.size, 0, none⟩ = some (.string (B c.row)) ∧ W.cell? ⟨w.heap.size, 1, none⟩ = some (.string (B c.col)) ∧ W.cell? ⟨w.heap.size, 2, none⟩ = some (.int .u64 c.ts) ∧ W.cell? ⟨w.heap.size, 3, none⟩ = some (.int .u64 c.seq) := by
  obtain ⟨a0, a1, a2, a3, a4, a5⟩ := h.1.six
  exact ⟨h, a0, a1, a2, a3⟩
theorem six_old {w W W' : World} {c : Cel} (h : Bk W w.heap.size 31 (cells c) ∧ Old w W) (k : Old W W') : Bk W' w.heap.size 31 (cells c) ∧ Old w W' := ⟨h.1.old k, h.2.tr k⟩

end Go.Proofs.Ythanenblcplbhaa
