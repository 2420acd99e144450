/-
  The world's words, the table of sixteen words, and the contracts of the sums: fourSteps, More, Sum, sumOf of the code, More and Sum of the document's own answer. Conditions: the table is laid; lengths as written.
-/
import Derived.Test.YtilimfbjkgeciaaDoorCNum
import Derived.Test.YtilimfbjkgeciaaDoorVFind
import Derived.WalkKit
import Derived.WalkSpells
import Derived.WalkLawsBesides
import Derived.Lib.Hide
import Derived.Deep.RegionHeld3
import Derived.Deep.QuietTactic
import Derived.BigQuiet
import Derived.Deep.Light
namespace Go.Proofs.YtilimfbjkgeciaaDoor
set_option maxRecDepth 100000
open Go.RowKit

theorem ret_str {a b : ByteArray} (h : a = b) : Ending.returned (.string a) = .returned (.string b) := by rw [h]

/-- The table lies where the program's text lays it. -/
def Tab (w : World) : Prop := 0 < w.heap.size ∧ ∀ i, i < 16 → w.cell? ⟨0, i, none⟩ = some (.int .u32 (tab.getD i 0 : Nat))
theorem Tab.below {w w' : World} {b : Nat} (h : Tab w) (hb : Below b w w') (h0 : 0 < b) : Tab w' := by
  refine ⟨?_, fun i hi => ?_⟩
  · have := hb.size; have := h.1; omega
  · rw [hb.cell (p := ⟨0, i, none⟩) h0]; exact h.2 i hi
theorem Tab.old {w w' : World} (h : Tab w) (hb : Old w w') : Tab w' := h.below hb h.1
theorem Tab.al {w : World} (h : Tab w) (o : Obj) : Tab (w.alloc o) := h.old (old_alloc _ _)

theorem wrap_u32_id (x : Nat) (h : x < 4294967296) : IntKind.u32.wrap (x : Int) = (x : Int) := by
  rw [IntKind.wrap_u32]; omega
theorem xor_u32 (a b : Nat) (ha : a < 4294967296) (hb : b < 4294967296) : bits BinOp.xor IntKind.u32 (a : Int) (b : Int) = ((a ^^^ b : Nat) : Int) := by
  show IntKind.u32.wrap ((BitVec.ofInt 32 (a : Int) ^^^ BitVec.ofInt 32 (b : Int)).toNat : Int) = _
  rw [BitVec.toNat_xor, BitVec.ofInt_natCast, BitVec.ofInt_natCast, BitVec.toNat_ofNat, BitVec.toNat_ofNat, Nat.mod_eq_of_lt (by omega), Nat.mod_eq_of_lt (by omega)]
  exact wrap_u32_id _ (xor_lt32 ha hb)
theorem or_u32 (a b : Nat) (ha : a < 4294967296) (hb : b < 4294967296) : bits BinOp.or IntKind.u32 (a : Int) (b : Int) = ((a ||| b : Nat) : Int) := by
  show IntKind.u32.wrap ((BitVec.ofInt 32 (a : Int) ||| BitVec.ofInt 32 (b : Int)).toNat : Int) = _
  rw [BitVec.toNat_or, BitVec.ofInt_natCast, BitVec.ofInt_natCast, BitVec.toNat_ofNat, BitVec.toNat_ofNat, Nat.mod_eq_of_lt (by omega), Nat.mod_eq_of_lt (by omega)]
  exact wrap_u32_id _ (by have : a ||| b < 2 ^ 32 := Nat.or_lt_two_pow (by omega) (by omega); omega)
theorem tab_lt (i : Nat) (h : i < 16) : tab.getD i 0 < 4294967296 := by
  rw [← step4_tab i h]; exact step4_lt (by omega)

set_option maxHeartbeats 400000 in
theorem four_any (n : Nat) (hn : n < 4294967296) (w : World) (h : Tab w) :
    Calls Tryd.prog 94 #[.int .u32 n] w fun e w' => e = .returned (.int .u32 (step4 n : Nat)) ∧ w = w' := by
  have hm : n % 16 < 16 := Nat.mod_lt _ (by omega)
  have hc := h.2 (n % 16) hm
  go_enter Tryd.func94, Tryd.ntmps94
  go_wp2
  go_ret
  refine ⟨ret_int ?_, rfl⟩
  rw [show ((n : Int) / 16) = ((n / 16 : Nat) : Int) by simp, xor_u32 _ _ (by omega) (by have := tab_lt _ hm; rwa [List.getD_eq_getElem?_getD] at this)]
  congr 1
  have := four_tab n
  rwa [List.getD_eq_getElem?_getD] at this

theorem not_u32 (n : Nat) (h : n < 4294967296) : bits BinOp.xor IntKind.u32 IntKind.u32.max (n : Int) = ((4294967295 - n : Nat) : Int) := by
  have hm : IntKind.u32.max = ((4294967295 : Nat) : Int) := by decide
  rw [hm, xor_u32 _ _ (by omega) h]
  congr 1
  have h3 : (BitVec.allOnes 32 ^^^ BitVec.ofNat 32 n).toNat = (~~~ BitVec.ofNat 32 n).toNat := by rw [BitVec.allOnes_xor]
  rw [BitVec.toNat_xor, BitVec.toNat_not, BitVec.toNat_ofNat, BitVec.toNat_allOnes, Nat.mod_eq_of_lt (by omega)] at h3
  simpa using h3

theorem xor_byte (l : List UInt8) (k : Nat) (hlt : k < l.length) (m : Nat) (hr : m < 4294967296) :
    bits BinOp.xor IntKind.u32 (m : Int) ((((B l)[k]'(by simpa [ByteArray.size] using hlt)).toNat : Int) % 4294967296) = ((m ^^^ l[k].toNat : Nat) : Int) := by
  rw [show (B l)[k]'(by simpa [ByteArray.size] using hlt) = l[k] from rfl]
  have := byte_lt32 l[k]
  rw [Int.emod_eq_of_lt (by omega) (by omega), xor_u32 _ _ hr (byte_lt32 _)]

set_option maxHeartbeats 400000 in
theorem c_more_any (s : Nat) (hs : s < 4294967296) (l : List UInt8) (hl : l.length ≤ 1000000) (w : World) (h : Tab w) :
    Calls Tryd.prog 91 #[.int .u32 s, .string (B l)] w fun e w' => e = .returned (.int .u32 (more s l : Nat)) ∧ w = w' := by
  have hn := not_u32 s hs
  have hsg : IntKind.u32.signed = false := rfl
  go_enter Tryd.func91, Tryd.ntmps91
  go_wp2_with fail
  go_loop [5, 11] (fun n i => ∃ k : Nat, k ≤ l.length ∧ i = .int .i64 k ∧ n = .int .u32 (run (4294967295 - s) (l.take k) : Nat)) (fun _ i => l.length - (intOf i).toNat)
  case atStart => exact ⟨0, Nat.zero_le _, rfl, rfl⟩
  case round =>
    obtain ⟨k, hk, rfl, rfl⟩ := hrel
    have hr := run_lt (n := 4294967295 - s) (by omega) (l.take k)
    by_cases hlt : k < l.length
    · have hsn : run (4294967295 - s) (l.take (k + 1)) = c_upd (run (4294967295 - s) (l.take k)) l[k] := by rw [List.take_succ_eq_append_getElem hlt, run_snoc]
      have HS := Lib.hid hsn
      clear hsn
      generalize run (4294967295 - s) (l.take k) = m at *
      have hx := xor_byte l k hlt m hr
      go_wp2_with fail
      refine (four_any _ (xor_lt32 hr (byte_lt32 _)) _ h).mono ?_
      rintro e w1 ⟨rfl, rfl⟩
      go_wp2_with fail
      refine (four_any _ (step4_lt (xor_lt32 hr (byte_lt32 _))) _ h).mono ?_
      rintro e w1 ⟨rfl, rfl⟩
      go_wp2
      go_round
      case rel =>
        refine ⟨k + 1, by omega, by go_num, ?_⟩
        rw [HS.out]
        rfl
      case measure => simp [intOf]; omega
    · have HS := Lib.hid (show more s l = 4294967295 - run (4294967295 - s) (l.take k) by rw [List.take_of_length_le (by omega)]; rfl)
      generalize run (4294967295 - s) (l.take k) = m at *
      have hx := not_u32 m hr
      go_wp2
      go_ret
      refine ⟨ret_int ?_, rfl⟩
      rw [HS.out]

set_option maxHeartbeats 400000 in
theorem sum_any (l : List UInt8) (hl : l.length ≤ 1000000) (w : World) (h : Tab w) :
    Calls Tryd.prog 92 #[.string (B l)] w fun e w' => e = .returned (.int .u32 (sumL l : Nat)) ∧ w = w' := by
  go_enter Tryd.func92, Tryd.ntmps92
  go_wp2_with fail
  refine (c_more_any 0 (by omega) l hl _ h).mono ?_
  rintro e w1 ⟨rfl, rfl⟩
  go_wp2
  go_ret
  exact ⟨rfl, rfl⟩

set_option maxHeartbeats 400000 in
theorem sumOf_any (a b : List UInt8) (ha : a.length ≤ 1000000) (hb : b.length ≤ 1000000) (w : World) (h : Tab w) :
    Calls Tryd.prog 87 #[.string (B a), .string (B b)] w fun e w' => e = .returned (.int .u32 (sumL (a ++ b) : Nat)) ∧ w = w' := by
  go_enter Tryd.func87, Tryd.ntmps87
  go_wp2_with fail
  refine (sum_any a ha _ h).mono ?_
  rintro e w1 ⟨rfl, rfl⟩
  have HS := Lib.hid (more_append 0 a b)
  go_wp2_with fail
  refine (c_more_any _ (more_lt _ _) b hb _ h).mono ?_
  rintro e w1 ⟨rfl, rfl⟩
  go_wp2
  go_ret
  refine ⟨ret_int ?_, rfl⟩
  rw [show sumL (a ++ b) = _ from HS.out]

def stepN : Nat → Nat → Nat
  | 0, n => n
  | j + 1, n => step (stepN j n)
theorem stepN_lt (j : Nat) {n : Nat} (h : n < 4294967296) : stepN j n < 4294967296 := by
  induction j with
  | zero => exact h
  | succ j ih => exact step_lt ih

set_option maxHeartbeats 1000000 in
theorem rmore_any (s : Nat) (hs : s < 4294967296) (l : List UInt8) (hl : l.length ≤ 1000000) (w : World) :
    Calls Tryd.prog 88 #[.int .u32 s, .string (B l)] w fun e w' => e = .returned (.int .u32 (more s l : Nat)) ∧ w = w' := by
  have hn : IntKind.u32.wrap (4294967295 - (s : Int)) = ((4294967295 - s : Nat) : Int) := by rw [IntKind.wrap_u32]; omega
  go_enter Tryd.func88, Tryd.ntmps88
  go_wp2_with fail
  go_loop [5, 6] (fun n i => ∃ k : Nat, k ≤ l.length ∧ i = .int .i64 k ∧ n = .int .u32 (run (4294967295 - s) (l.take k) : Nat)) (fun _ i => l.length - (intOf i).toNat)
  case atStart => exact ⟨0, Nat.zero_le _, rfl, congrArg _ (by first | exact hn | rfl)⟩
  case round =>
    obtain ⟨k, hk, rfl, rfl⟩ := hrel
    have hr := run_lt (n := 4294967295 - s) (by omega) (l.take k)
    by_cases hlt : k < l.length
    · have hsn : run (4294967295 - s) (l.take (k + 1)) = c_upd (run (4294967295 - s) (l.take k)) l[k] := by rw [List.take_succ_eq_append_getElem hlt, run_snoc]
      have HS := Lib.hid hsn
      clear hsn
      generalize run (4294967295 - s) (l.take k) = m at *
      have hx := xor_byte l k hlt m hr
      go_wp2_with fail
      have hm : m ^^^ l[k].toNat < 4294967296 := xor_lt32 hr (byte_lt32 _)
      have HM := Lib.hid (show c_upd m l[k] = stepN 8 (m ^^^ l[k].toNat) from rfl)
      generalize m ^^^ l[k].toNat = x at *
      go_loop [5, 7] (fun n i => ∃ j : Nat, j ≤ 8 ∧ i = .int .i64 j ∧ n = .int .u32 (stepN j x : Nat)) (fun _ i => 8 - (intOf i).toNat)
      case atStart => exact ⟨0, Nat.zero_le _, rfl, rfl⟩
      case round =>
        obtain ⟨j, hj, rfl, rfl⟩ := hrel
        have hq := stepN_lt j hm
        by_cases hjl : j < 8
        · have HJ := Lib.hid (show stepN (j + 1) x = step (stepN j x) from rfl)
          generalize stepN j x = y at *
          by_cases hp : y % 2 = 1
          · have hp2 : ((y : Int) % 2 == 1) = true := by rw [beq_iff_eq]; omega
            have hx2 : bits BinOp.xor IntKind.u32 ((y : Int) / 2) 3988292384 = ((step y : Nat) : Int) := by
              unfold step
              rw [if_pos hp, show ((y : Int) / 2) = ((y / 2 : Nat) : Int) by simp]
              exact xor_u32 _ poly (by omega) (by decide)
            go_wp2
            go_round
            case rel => exact ⟨j + 1, by omega, by go_num, by rw [HJ.out]⟩
            case measure => simp [intOf]; omega
          · have hp2 : ((y : Int) % 2 == 1) = false := by rw [beq_eq_false_iff_ne]; omega
            go_wp2
            go_round
            case rel =>
              refine ⟨j + 1, by omega, by go_num, ?_⟩
              rw [HJ.out]
              unfold step
              rw [if_neg hp, Nat.xor_zero]
              simp
            case measure => simp [intOf]; omega
        · obtain rfl : j = 8 := by omega
          rw [← HM.out] at hq ⊢
          rw [← HS.out] at hq ⊢
          go_wp2
          go_round
          case rel => exact ⟨k + 1, by omega, by go_num, rfl⟩
          case measure => simp [intOf]; omega
    · have HS := Lib.hid (show more s l = 4294967295 - run (4294967295 - s) (l.take k) by rw [List.take_of_length_le (by omega)]; rfl)
      generalize run (4294967295 - s) (l.take k) = m at *
      go_wp2
      go_ret
      refine ⟨ret_int ?_, rfl⟩
      rw [HS.out]
      omega

set_option maxHeartbeats 400000 in
theorem rsum_any (l : List UInt8) (hl : l.length ≤ 1000000) (w : World) :
    Calls Tryd.prog 79 #[.string (B l)] w fun e w' => e = .returned (.int .u32 (sumL l : Nat)) ∧ w = w' := by
  go_enter Tryd.func79, Tryd.ntmps79
  go_wp2_with fail
  refine (rmore_any 0 (by omega) l hl _).mono ?_
  rintro e w1 ⟨rfl, rfl⟩
  go_wp2
  go_ret
  exact ⟨rfl, rfl⟩
end Go.Proofs.YtilimfbjkgeciaaDoor
