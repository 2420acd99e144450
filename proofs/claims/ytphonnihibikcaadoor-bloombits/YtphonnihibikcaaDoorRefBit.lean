/-
  The document's own answer: bit, Full, Bits, May. Conditions: lengths as written.
-/
import Derived.Test.YtphonnihibikcaaDoorShown
namespace Go.Proofs.YtphonnihibikcaaDoor
open Go.RowKit

theorem half (x k : Nat) : x / 2 ^ k / 2 = x / 2 ^ (k + 1) := by rw [Nat.pow_succ, Nat.div_div_eq_div_mul]

set_option maxHeartbeats 1000000 in
theorem rbit_any (f : List UInt8) (hf : f.length ≤ 100000) (p : Nat) (hp : p < 8 * f.length) (w : World) :
    Calls Tryd.prog 24 #[.string (B f), .int .i64 p] w fun e w' => e = .returned (.bool (bitAt f p)) ∧ w = w' := by
  have hq : p / 8 < f.length := by omega
  have HB := Lib.hid (bitAt_at f p hq)
  have hx : (B f)[p / 8]'(by simpa [ByteArray.size] using hq) = f[p / 8] := rfl
  have hx2 := f[p / 8].toNat_lt
  go_enter Tryd.func24, Tryd.ntmps24
  go_wp2_with fail
  generalize f[p / 8] = x at *
  go_loop [5, 6] (fun n i => ∃ k : Nat, k ≤ p % 8 ∧ i = .int .i64 k ∧ n = .int .i64 (x.toNat / 2 ^ k : Nat)) (fun _ i => 8 - (intOf i).toNat)
  case atStart => exact ⟨0, Nat.zero_le _, rfl, by simp⟩
  case round =>
    obtain ⟨k, hk, rfl, rfl⟩ := hrel
    have hle : x.toNat / 2 ^ k ≤ x.toNat := Nat.div_le_self _ _
    by_cases hlt : k < p % 8
    · have HH := Lib.hid (half x.toNat k)
      generalize x.toNat / 2 ^ k = y at *
      go_wp2
      go_round
      case rel => exact ⟨k + 1, by omega, by go_num, by rw [← HH.out]; go_num⟩
      case measure => simp [intOf]; omega
    · obtain rfl : k = p % 8 := by omega
      rw [Nat.testBit_eq_decide_div_mod_eq] at HB
      generalize x.toNat / 2 ^ (p % 8) = y at *
      go_wp2
      go_ret
      refine ⟨ret_bool ?_, rfl⟩
      rw [HB.out, Bool.eq_iff_iff, beq_iff_eq, decide_eq_true_iff]
      omega

set_option maxHeartbeats 1000000 in
theorem rfull_any (f : List UInt8) (hf : f.length ≤ 100000) (w : World) :
    Calls Tryd.prog 14 #[.string (B f)] w fun e w' => e = .returned (.int .i64 (full f : Nat)) ∧ w = w' := by
  have HF := Lib.hid (show full f = cnt f (8 * f.length) from full_count f)
  go_enter Tryd.func14, Tryd.ntmps14
  go_wp2_with fail
  go_loop [3, 4] (fun n i => ∃ k : Nat, k ≤ 8 * f.length ∧ i = .int .i64 k ∧ n = .int .i64 (cnt f k : Nat)) (fun _ i => 8 * f.length - (intOf i).toNat)
  case atStart => exact ⟨0, Nat.zero_le _, rfl, rfl⟩
  case round =>
    obtain ⟨k, hk, rfl, rfl⟩ := hrel
    have hc := cnt_le f k
    by_cases hlt : k < 8 * f.length
    · have HC := Lib.hid (cnt_succ f k)
      generalize cnt f k = m at *
      go_wp2_with fail
      refine (rbit_any f hf k hlt _).mono ?_
      rintro e w1 ⟨rfl, rfl⟩
      generalize bitAt f k = b at *
      cases b
      · go_wp2
        go_round
        case rel => exact ⟨k + 1, by omega, by go_num, by rw [HC.out]; rfl⟩
        case measure => simp [intOf]; omega
      · go_wp2
        go_round
        case rel => exact ⟨k + 1, by omega, by go_num, by rw [HC.out]; go_num⟩
        case measure => simp [intOf]; omega
    · obtain rfl : k = 8 * f.length := by omega
      rw [← HF.out]
      go_wp2
      go_ret
      exact ⟨rfl, rfl⟩

theorem B_append (l m : List UInt8) : B l ++ B m = B (l ++ m) := by
  apply ByteArray.ext
  simp [B]
theorem sum_one (l : List UInt8) : sumL (l ++ [1]) = more (sumL l) [1] := more_append 0 l [1]
theorem wrap_u64_id (x : Nat) (h : x < 18446744073709551616) : IntKind.u64.wrap (x : Int) = (x : Int) := by
  rw [IntKind.wrap_u64]; omega

theorem ints_new (w : World) : Ints (w.alloc (.cells #[] 3)) w.heap.size (.slice (some ⟨w.heap.size, 0, none⟩) 0 0) [] :=
  World.ownsRow_made w #[] 0 (Nat.le_refl _) (by unfold maxLen; omega) rfl

set_option maxHeartbeats 1000000 in
theorem rbits_any (l : List UInt8) (hl : l.length ≤ 100000) (many : Nat) (hm : many ≤ 1000000000) (w : World) :
    Calls Tryd.prog 17 #[.string (B l), .int .i64 (many : Int)] w fun e w' => ∃ v, e = .returned v ∧ Ints w' w.heap.size v (places l many) ∧ Old w w' := by
  obtain ⟨a, ha⟩ : ∃ a, a = sumL l := ⟨_, rfl⟩
  obtain ⟨b, hb⟩ : ∃ b, b = more (sumL l) [1] := ⟨_, rfl⟩
  have hs : a < 4294967296 := by rw [ha]; exact more_lt _ _
  have hs2 : b < 4294967296 := by rw [hb]; exact more_lt _ _
  have HP := Lib.hid (show ∀ i, place l many i = ((a + i * b) % 4294967296) % many from fun i => by rw [ha, hb]; rfl)
  have H1 := Lib.hid (rsum_any l (by omega) (w.alloc (.cells #[] 3)))
  have H2 := Lib.hid (rsum_any (l ++ [1]) (by simp; omega) (w.alloc (.cells #[] 3)))
  rw [sum_one, ← hb] at H2
  rw [← ha] at H1
  clear ha hb
  have hcat : B l ++ B [1] = B (l ++ [1]) := B_append _ _
  have hroom : ¬ 9223372036854775807 < (l.length : Int) + 1 := by omega
  go_enter Tryd.func17, Tryd.ntmps17
  go_wp2_with fail
  refine H1.out.mono ?_
  rintro e w1 ⟨rfl, rfl⟩
  go_wp2_with fail
  refine H2.out.mono ?_
  rintro e w1 ⟨rfl, rfl⟩
  clear H1 H2 hcat hroom
  go_wp2_with fail
  go_loopw [5, 8] (fun v i wr => ∃ k : Nat, k ≤ 4 ∧ (many = 0 → k = 0) ∧ i = .int .u64 k ∧ Ints wr w.heap.size v (((List.range 4).map (place l many)).take k) ∧ Old w wr) (fun _ i _ => 4 - (intOf i).toNat)
  case atStart => exact ⟨0, Nat.zero_le _, fun _ => rfl, rfl, ints_new w, old_alloc _ _⟩
  case round =>
    obtain ⟨k, hk, hk0, rfl, ho, hold⟩ := hrel
    by_cases hlt : k < 4 ∧ 0 < many
    · obtain ⟨hlt, hm0⟩ := hlt
      obtain ⟨c, hc⟩ : ∃ c, c = k * b := ⟨_, rfl⟩
      have hcI : (k : Int) * (b : Int) = (c : Int) := by rw [hc, Int.natCast_mul]
      have hc4 : c ≤ 17179869184 := by rw [hc]; exact Nat.le_trans (Nat.mul_le_mul (show k ≤ 4 by omega) (show b ≤ 4294967296 by omega)) (by decide)
      have hq : wrap64 (((a : Int) + (c : Int)) % 4294967296 % (many : Int)) = ((place l many k : Nat) : Int) := by
        rw [HP.out k, ← place_cast a b k many hm0 hm, hcI]
      have HPL := Lib.hid (places_take l many k hlt)
      clear hc hk0
      generalize place l many k = p at *
      go_wp2_with (at_builtin; refine wp_app1 rfl _ _ rfl rfl (ho.alloc _) p wr.heap.size rfl (heap_alloc_new _ _) (by simp; omega) (by simp; have := hold.size; omega) ?_; intro g1 p1 w1 ho1 hbl1 hb1)
      go_roundw
      case rel =>
        have e : (List.take k (List.map (place l many) (List.range 4))).length = k := by simp; omega
        rw [e] at ho1
        exact ⟨k + 1, by omega, fun h => absurd h (by omega), by go_num, by rw [HPL.out]; exact ho1, Below.trans (hold.al _) hbl1⟩
      case measure => simp [intOf]; omega
    · have HE := Lib.hid (show ((List.range 4).map (place l many)).take k = places l many by
        unfold places
        by_cases hz : many = 0
        · rw [if_pos hz, hk0 hz]; rfl
        · rw [if_neg hz, List.take_of_length_le (by simp; omega)])
      rw [HE.out] at ho
      clear HE hk0
      by_cases hlt2 : k < 4
      · obtain rfl : many = 0 := by omega
        go_wp2
        go_ret
        exact ⟨_, rfl, ho, hold⟩
      · go_wp2
        go_ret
        exact ⟨_, rfl, ho, hold⟩
end Go.Proofs.YtphonnihibikcaaDoor
