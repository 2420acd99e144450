/-
  Numbers as bytes, texts with their sums, in table: appendNumber, number, put. Conditions: the table is laid; lengths as written.
-/
import Derived.Test.YtlmlopdakbbbjaaGreatDoorTPrt
namespace Go.Proofs.YtlmlopdakbbbjaaGreatDoor
open Go.RowKit

theorem shr_byte (n k : Nat) : (n : Int) / 2 ^ (8 * k) % 256 = ((n / 256 ^ k % 256 : Nat) : Int) := by
  rw [show ((2 : Int) ^ (8 * k)) = ((256 ^ k : Nat) : Int) by rw [← pow8]; simp]
  rfl
set_option maxRecDepth 100000 in
set_option maxHeartbeats 1000000 in
theorem appNum_any (base : Nat) (v : Value) (l : List UInt8) (n k : Nat) (hn : n < 18446744073709551616) (hk : k ≤ 8) (w : World) (h : Own w base v l) (hb : base ≤ w.heap.size) (hl : l.length ≤ 90000) :
    Calls Tryz.prog 54 #[v, .int .u64 n, .int .i64 k] w fun e w' => ∃ v', e = .returned v' ∧ Own w' base v' (l ++ lowN n k) ∧ Below base w w' ∧ base ≤ w'.heap.size := by
  go_enter Tryz.func54, Tryz.ntmps54
  go_wp2_with fail
  go_loopw [0, 9] (fun vo i wr => ∃ j : Nat, j ≤ k ∧ i = .int .i64 j ∧ Own wr base vo (l ++ lowN n j) ∧ Below base w wr ∧ base ≤ wr.heap.size) (fun _ i _ => k - (intOf i).toNat)
  case atStart => exact ⟨0, Nat.zero_le _, rfl, by simpa [lowN] using h, Below.refl _ _, hb⟩
  case round =>
    obtain ⟨j, hj, rfl, ho, hB, hbs⟩ := hrel
    by_cases hlt : j < k
    · have hll : (l ++ lowN n j).length ≤ 90008 := by rw [List.length_append, lowN_length]; omega
      go_wp2_with (at_builtin; refine wp_app rfl _ _ rfl rfl (ho.alloc _) [UInt8.ofNat (n / 256 ^ j)] wr.heap.size 1 1 rfl rfl (new_rowN _ _ _ (shr_byte n j)) (by simp only [List.length_cons, List.length_nil]; omega) (by simp; omega) ?_; intro v1 w1 ho1 hbl1 hb1)
      go_roundw
      case rel => exact ⟨j + 1, by omega, by go_num, by rw [lowN, ← List.append_assoc]; exact ho1, (hB.alloc hbs _).trans hbl1, hb1⟩
      case measure => simp [intOf]; omega
    · have e : j = k := by omega
      subst e
      go_wp2
      go_ret
      exact ⟨_, rfl, ho, hB, hbs⟩

set_option maxHeartbeats 1000000 in
theorem tput_any (l : List UInt8) (h : l.length ≤ 65535) (w : World) (ht : Tab w) :
    Calls Tryz.prog 49 #[.string (B l)] w fun e w' => e = .returned (.string (B (put l))) ∧ Old w w' := by
  go_enter Tryz.func49, Tryz.ntmps49
  go_wp2_with fail
  refine (put_yes l h _ ht).mono ?_
  rintro e w1 ⟨rfl, h1⟩
  go_wp2
  go_ret
  exact ⟨rfl, h1⟩

set_option maxHeartbeats 1000000 in
theorem tnumber_any (t : List UInt8) (w : World) (hlen : t.length ≤ 8) :
    Calls Tryz.prog 64 #[.string (B t)] w fun r w' => r = .returned (.int .u64 (lowV t)) ∧ w = w' := by
  go_enter Tryz.func64, Tryz.ntmps64
  go_wp2
  go_loop [3, 7] (fun n i => ∃ k : Nat, k ≤ t.length ∧ i = .int .i64 k ∧ n = .int .u64 (lowV (t.take k))) (fun _ i => t.length - (intOf i).toNat)
  case atStart => exact ⟨0, Nat.zero_le _, rfl, rfl⟩
  case round =>
    obtain ⟨k, hk, rfl, rfl⟩ := hrel
    by_cases hlt : k < t.length
    · go_wp2
      go_round
      case rel =>
        refine ⟨k + 1, by omega, by go_num, ?_⟩
        congr 1
        have hl1 := lowV_lt (t.take k)
        have hl2 : (t.take k).length = k := by simp; omega
        rw [hl2] at hl1
        refine (or_low _ (t[k].toNat) k hl1 t[k].toNat_lt (by omega)).trans ?_
        rw [List.take_succ_eq_append_getElem hlt, lowV_snoc, hl2]
      case measure => simp [intOf]; omega
    · go_wp2
      go_ret
      refine ⟨ret_int ?_, rfl⟩
      rw [List.take_of_length_le (by omega)]
end Go.Proofs.YtlmlopdakbbbjaaGreatDoor
