/-
  The bytes and the key of a cell: Encode, Key, of the code. Conditions: the numbers are of 64 bits.
-/
import Derived.Test.YthanenblcplbhaaMApp
namespace Go.Proofs.Ythanenblcplbhaa
open Go.RowKit

/-- The numbers are of 64 bits. -/
def Cel.ok (c : Cel) : Prop := c.ts < 18446744073709551616 ∧ c.seq < 18446744073709551616

def text1 (t : List UInt8) : List UInt8 := UInt8.ofNat t.length :: t
def enc (c : Cel) : List UInt8 := text1 c.row ++ text1 c.col ++ low8 c.ts ++ low8 c.seq ++ flag1 c.del ++ text1 c.val

theorem mayB_parts {c : Cel} (h : mayB c = true) : 1 ≤ c.row.length ∧ c.row.length ≤ 40 ∧ 1 ≤ c.col.length ∧ c.col.length ≤ 40 ∧ c.val.length ≤ 100 := by
  unfold mayB at h
  simp only [Bool.and_eq_true, decide_eq_true_eq] at h
  omega

set_option maxHeartbeats 1000000 in
theorem encode_no (c : Cel) (w : World) (h : mayB c = false) :
    Calls Try.prog 23 #[cv c] w fun e w' => e = .returned (.tuple #[.string (B []), .int .i64 1]) ∧ Old w w' := by
  go_enter Try.func23, Try.ntmps23
  go_wp2_with (go_at_call 35; refine (may_any c _).mono ?_; rintro e w1 ⟨rfl, hb⟩)
  go_ret2
  exact ⟨rfl, ((Old.re _).al _).tr hb⟩

/-- A cell that was boxed, and all below the next block is as it was: it is read as it was. -/
theorem boxed {w wN : World} {c : Cel} {t : TypeId} (hb : Below (w.heap.size + 1) (w.alloc (.cells (cells c) t)) wN) :
    wN.cell? ⟨w.heap.size, 0, none⟩ = some (.string (B c.row)) ∧ wN.cell? ⟨w.heap.size, 1, none⟩ = some (.string (B c.col)) ∧ wN.cell? ⟨w.heap.size, 2, none⟩ = some (.int .u64 c.ts) ∧
    wN.cell? ⟨w.heap.size, 3, none⟩ = some (.int .u64 c.seq) ∧ wN.cell? ⟨w.heap.size, 4, none⟩ = some (.bool c.del) ∧ wN.cell? ⟨w.heap.size, 5, none⟩ = some (.string (B c.val)) := by
  refine ⟨?_, ?_, ?_, ?_, ?_, ?_⟩ <;> (rw [hb.cell (by exact Nat.lt_succ_self _)]; simp)
theorem old_box {w wN : World} {o : Obj} (hb : Below (w.heap.size + 1) (w.alloc o) wN) : Old w wN := ((Below.refl _ _).alloc (Nat.le_refl _) _).trans (hb.mono (by omega))
theorem box_old {w wN : World} {o : Obj} (hb : Old (w.alloc o) wN) : Below (w.heap.size + 1) (w.alloc o) wN := by
  have h : (w.alloc o).heap.size = w.heap.size + 1 := by simp
  have h2 := hb
  unfold Old at h2
  rw [h] at h2
  exact h2

set_option maxHeartbeats 2000000 in
theorem encode_yes (c : Cel) (w : World) (h : mayB c = true) (hok : c.ok) :
    Calls Try.prog 23 #[cv c] w fun e w' => e = .returned (.tuple #[.string (B (enc c)), .int .i64 0]) ∧ Old w w' := by
  obtain ⟨hr1, hr2, hc1, hc2, hv⟩ := mayB_parts h
  obtain ⟨ht, hs⟩ := hok
  have x0 := fun w => idx0 (.string (B c.row)) (.string (B c.col)) w
  have x1 := fun w => idx1 (.string (B c.row)) (.string (B c.col)) w
  go_enter Try.func23, Try.ntmps23
  go_wp2_with (first
    | (go_at_call 35; refine (may_any c _).mono ?_; rintro e w1 ⟨rfl, hb⟩; have hc := fun g o => kept_cell hb g o)
    | (go_at_call 36; refine (namesOf_any c _).mono ?_; rintro e w2 ⟨rfl, rfl⟩))
  have b1 := box_old hb
  have s1 : w.heap.size + 1 ≤ w1.heap.size := by have := b1.size; simpa using this
  clear hb hc
  refine wp_loop_rounds 3 ?_
  rw [rounds_succ]
  go_wp2_with fail
  refine (appendText_any (w.heap.size + 1) _ [] c.row _ (Own.nil _ _) (by simp) (by omega) (by simp; omega)).mono ?_
  rintro e w3 ⟨v3, rfl, o3, b3⟩
  have b3 := ((b1.alloc s1 _).alloc (by simp; omega) _).trans b3
  have s3 : w.heap.size + 1 ≤ w3.heap.size := by have := b3.size; simpa using this
  clear b1 s1
  rw [List.nil_append] at o3
  go_wp2
  rw [rounds_succ]
  go_wp2_with fail
  refine (appendText_any (w.heap.size + 1) _ _ c.col _ o3 (by simp; omega) (by omega) s3).mono ?_
  rintro e w4 ⟨v4, rfl, o4, b4⟩
  have b4 := b3.trans b4
  have s4 : w.heap.size + 1 ≤ w4.heap.size := by have := b4.size; simpa using this
  clear b3 s3 o3
  obtain ⟨-, -, f2, f3, f4, f5⟩ := boxed b4
  go_wp2
  rw [rounds_succ]
  go_wp2_with fail
  refine (appendLowFirst_any (w.heap.size + 1) _ _ c.ts _ o4 (by simp; omega) ht s4).mono ?_
  rintro e w5 ⟨v5, rfl, o5, b5⟩
  have b5 := b4.trans b5
  have s5 : w.heap.size + 1 ≤ w5.heap.size := by have := b5.size; simpa using this
  clear b4 s4 o4 f2 f3 f4 f5
  obtain ⟨-, -, f2, f3, f4, f5⟩ := boxed b5
  go_wp2_with fail
  refine (appendLowFirst_any (w.heap.size + 1) _ _ c.seq _ o5 (by simp [low8]; omega) hs s5).mono ?_
  rintro e w6 ⟨v6, rfl, o6, b6⟩
  have b6 := b5.trans b6
  have s6 : w.heap.size + 1 ≤ w6.heap.size := by have := b6.size; simpa using this
  clear b5 s5 o5 f2 f3 f4 f5
  obtain ⟨-, -, f2, f3, f4, f5⟩ := boxed b6
  go_wp2_with fail
  refine (appendFlag_any (w.heap.size + 1) _ _ c.del _ o6 (by simp [low8]; omega) s6).mono ?_
  rintro e w7 ⟨v7, rfl, o7, b7⟩
  have b7 := b6.trans b7
  have s7 : w.heap.size + 1 ≤ w7.heap.size := by have := b7.size; simpa using this
  clear b6 s6 o6 f2 f3 f4 f5
  obtain ⟨-, -, f2, f3, f4, f5⟩ := boxed b7
  go_wp2_with fail
  refine (appendText_any (w.heap.size + 1) _ _ c.val _ o7 (by simp [low8, flag1_len]; omega) (by omega) s7).mono ?_
  rintro e w8 ⟨v8, rfl, o8, b8⟩
  have b8 := b7.trans b8
  clear b7 s7 o7 f2 f3 f4 f5
  have hcv := run_str o8
  go_wp2
  go_ret2
  refine ⟨?_, old_box b8⟩
  simp [enc, text1]

def neg64 (n : Nat) : Nat := 18446744073709551615 - n
theorem xor_neg (n : Nat) (h : n < 18446744073709551616) : bits BinOp.xor IntKind.u64 IntKind.u64.max (n : Int) = ((neg64 n : Nat) : Int) := by
  have hm : IntKind.u64.max = ((18446744073709551615 : Nat) : Int) := by decide
  rw [hm]
  have h1 : bits BinOp.xor IntKind.u64 ((18446744073709551615 : Nat) : Int) (n : Int) = ((18446744073709551615 ^^^ n : Nat) : Int) := by
    show IntKind.u64.wrap ((BitVec.ofInt 64 ((18446744073709551615 : Nat) : Int) ^^^ BitVec.ofInt 64 (n : Int)).toNat : Int) = _
    rw [BitVec.toNat_xor, BitVec.ofInt_natCast, BitVec.ofInt_natCast, BitVec.toNat_ofNat, BitVec.toNat_ofNat]
    rw [Nat.mod_eq_of_lt (by omega), Nat.mod_eq_of_lt (by omega)]
    have : 18446744073709551615 ^^^ n < 2 ^ 64 := Nat.xor_lt_two_pow (by omega) (by omega)
    rw [IntKind.wrap_u64]
    omega
  rw [h1]
  have h2 : 18446744073709551615 ^^^ n = neg64 n := by
    have h3 : (BitVec.allOnes 64 ^^^ BitVec.ofNat 64 n).toNat = (~~~ BitVec.ofNat 64 n).toNat := by rw [BitVec.allOnes_xor]
    rw [BitVec.toNat_xor, BitVec.toNat_not, BitVec.toNat_ofNat, BitVec.toNat_allOnes] at h3
    rw [Nat.mod_eq_of_lt (by omega)] at h3
    unfold neg64
    simpa using h3
  rw [h2]
def key (c : Cel) : List UInt8 := marks c.row ++ [0, 1] ++ marks c.col ++ [0, 1] ++ high8 (neg64 c.ts) ++ high8 (neg64 c.seq)

theorem marks_le40 (t : List UInt8) (h : t.length ≤ 40) : (marks t).length ≤ 80 := by have := marks_le t; omega

end Go.Proofs.Ythanenblcplbhaa
