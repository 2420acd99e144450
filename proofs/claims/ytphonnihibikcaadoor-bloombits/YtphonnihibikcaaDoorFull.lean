/-
  Full of the code. Conditions: lengths as written.
-/
import Derived.Test.YtphonnihibikcaaDoorMay
namespace Go.Proofs.YtphonnihibikcaaDoor
open Go.RowKit

theorem byte_getD (D : ByteArray) (n : Nat) (h : n < D.size) : (D[n]'h) = D.data.toList.getD n 0 := by
  have h2 : n < D.data.size := h
  rw [List.getD_eq_getElem?_getD, List.getElem?_eq_getElem (by simpa using h2)]
  simp
  rfl

theorem wrap64_byte (x : UInt8) : wrap64 (x.toNat : Int) = (x.toNat : Int) := IntWalk.wrap64_in _ (by have := x.toNat_lt; omega)

set_option maxRecDepth 100000 in
set_option maxHeartbeats 1000000 in
theorem ones_any (b : UInt8) (w : World) :
    Calls Tryd.prog 23 #[.int .u8 (b.toNat : Int)] w fun e w' => e = .returned (.int .i64 (pop b : Nat)) ∧ w = w' := by
  have hb := b.toNat_lt
  go_enter Tryd.func23, Tryd.ntmps23
  go_wp2
  go_ret
  refine ⟨ret_int ?_, rfl⟩
  rw [byte_getD]
  rw [wrap64_byte]
  congr 1
  clear hb
  rename_i h1
  clear h1
  rcases b with ⟨⟨n, hn⟩⟩
  revert n hn
  decide +kernel

set_option maxHeartbeats 1000000 in
theorem full_any (f : List UInt8) (hf : f.length ≤ 100000) (w : World) :
    Calls Tryd.prog 13 #[.string (B f)] w fun e w' => e = .returned (.int .i64 (full f : Nat)) ∧ w = w' := by
  go_enter Tryd.func13, Tryd.ntmps13
  go_wp2_with fail
  go_loop [3, 7] (fun n i => ∃ k : Nat, k ≤ f.length ∧ i = .int .i64 k ∧ n = .int .i64 (full (f.take k) : Nat)) (fun _ i => f.length - (intOf i).toNat)
  case atStart => exact ⟨0, Nat.zero_le _, rfl, rfl⟩
  case round =>
    obtain ⟨k, hk, rfl, rfl⟩ := hrel
    by_cases hlt : k < f.length
    · have hx : (B f)[k]'(by simpa [ByteArray.size] using hlt) = f[k] := rfl
      have HS := Lib.hid (show full (f.take (k + 1)) = full (f.take k) + pop f[k] by rw [List.take_succ_eq_append_getElem hlt, full_snoc])
      have hle := full_le (f.take k)
      have hle2 : (f.take k).length ≤ f.length := by simp; omega
      have hp := pop_le f[k]
      generalize full (f.take k) = m at *
      go_wp2_with fail
      refine (ones_any f[k] _).mono ?_
      rintro e w1 ⟨rfl, rfl⟩
      generalize pop f[k] = q at *
      go_wp2
      go_round
      case rel => exact ⟨k + 1, by omega, by go_num, by rw [HS.out]; go_num⟩
      case measure => simp [intOf]; omega
    · have HS := Lib.hid (show full f = full (f.take k) by rw [List.take_of_length_le (by omega)])
      go_wp2
      go_ret
      refine ⟨ret_int ?_, rfl⟩
      rw [HS.out]
end Go.Proofs.YtphonnihibikcaaDoor
