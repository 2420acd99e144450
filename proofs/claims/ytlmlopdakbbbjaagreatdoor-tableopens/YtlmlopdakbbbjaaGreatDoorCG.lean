/-
  Texts in one: CNum CBase CText CPut CStrs CAll CSame CRef. Conditions: as each theorem writes them.
-/
import Derived.Test.YtlmlopdakbbbjaaGreatDoorWr
import Derived.Test.YtlmlopdakbbbjaaGreatDoorRdr
import Derived.WalkKit
import Derived.WalkSpells
import Derived.WalkLawsBesides
import Derived.Lib.Hide
import Derived.Deep.RegionHeld3
import Derived.Deep.QuietTactic
import Derived.BigQuiet
import Derived.Deep.Light
import Derived.Lib.AppendStr
import Derived.Test.YtlmlopdakbbbjaaGreatDoorRise
import Derived.RangeFuncNested
import Derived.RangeFuncBound
import Derived.RangeFuncCalls
import Derived.RangeFuncLeaves
import Derived.RangeFuncBox
import Derived.Shelf.Abstract
import Derived.Shelf.RegionOpen
import Derived.OwnWalkIn
import Derived.TacticsInMore
import Derived.LoopNIn
import Derived.LoopIn
import Derived.Maps.AppendAt
namespace Go.Proofs.YtlmlopdakbbbjaaGreatDoor

def poly : Nat := 3988292384
/-- One of a byte's eight steps. -/
def step (n : Nat) : Nat := (n / 2) ^^^ (if n % 2 = 1 then poly else 0)
def step4 (n : Nat) : Nat := step (step (step (step n)))
def step8 (n : Nat) : Nat := step4 (step4 n)
/-- What one byte makes of the word. -/
def upd (n : Nat) (b : UInt8) : Nat := step8 (n ^^^ b.toNat)
def run (n : Nat) (l : List UInt8) : Nat := l.foldl upd n
/-- The sum of a text, going on from a sum. -/
def more (sum : Nat) (l : List UInt8) : Nat := 4294967295 - run (4294967295 - sum) l
def sumL (l : List UInt8) : Nat := more 0 l

def tab : List Nat := [0, 498536548, 997073096, 651767980, 1994146192, 1802195444, 1303535960, 1342533948, 3988292384, 4027552580, 3604390888, 3412177804, 2607071920, 2262029012, 2685067896, 3183342108]

theorem xor_lt32 {a b : Nat} (ha : a < 4294967296) (hb : b < 4294967296) : a ^^^ b < 4294967296 := Nat.xor_lt_two_pow (n := 32) ha hb
theorem step_lt {n : Nat} (h : n < 4294967296) : step n < 4294967296 := by
  unfold step
  refine xor_lt32 (by omega) ?_
  split <;> decide
theorem step4_lt {n : Nat} (h : n < 4294967296) : step4 n < 4294967296 := step_lt (step_lt (step_lt (step_lt h)))
theorem step8_lt {n : Nat} (h : n < 4294967296) : step8 n < 4294967296 := step4_lt (step4_lt h)
theorem upd_lt {n : Nat} (h : n < 4294967296) (b : UInt8) : upd n b < 4294967296 := by
  refine step8_lt (xor_lt32 h ?_)
  have := b.toNat_lt
  omega
theorem run_lt {n : Nat} (h : n < 4294967296) (l : List UInt8) : run n l < 4294967296 := by
  unfold run
  induction l generalizing n with
  | nil => exact h
  | cons b l ih => exact ih (upd_lt h b)
theorem more_lt (s : Nat) (l : List UInt8) : more s l < 4294967296 := by unfold more; omega
theorem run_append (n : Nat) (l m : List UInt8) : run n (l ++ m) = run (run n l) m := by simp [run]
theorem run_snoc (n : Nat) (l : List UInt8) (b : UInt8) : run n (l ++ [b]) = upd (run n l) b := by simp [run]
theorem more_append (s : Nat) (l m : List UInt8) : more s (l ++ m) = more (more s l) m := by
  unfold more
  rw [run_append]
  have h := run_lt (n := 4294967295 - s) (by omega) l
  rw [show 4294967295 - (4294967295 - run (4294967295 - s) l) = run (4294967295 - s) l by omega]
theorem more_nil (s : Nat) (h : s < 4294967296) : more s [] = s := by
  unfold more run
  simp only [List.foldl_nil]
  omega

theorem step_xor (a b : Nat) : step (a ^^^ b) = step a ^^^ step b := by
  unfold step
  rw [Nat.xor_div_two]
  by_cases h : a % 2 = 1 <;> by_cases k : b % 2 = 1
  · rw [if_neg (by rw [Nat.xor_mod_two_eq_one]; simp [h, k]), if_pos h, if_pos k, Nat.xor_zero, Nat.xor_assoc (a / 2), ← Nat.xor_assoc poly, Nat.xor_comm poly, Nat.xor_assoc (b / 2), Nat.xor_self, Nat.xor_zero]
  · rw [if_pos (by rw [Nat.xor_mod_two_eq_one]; simp [h, k]), if_pos h, if_neg k, Nat.xor_zero, Nat.xor_assoc, Nat.xor_assoc, Nat.xor_comm poly]
  · rw [if_pos (by rw [Nat.xor_mod_two_eq_one]; simp [h, k]), if_neg h, if_pos k, Nat.xor_zero, Nat.xor_assoc]
  · rw [if_neg (by rw [Nat.xor_mod_two_eq_one]; simp [h, k]), if_neg h, if_neg k, Nat.xor_zero, Nat.xor_zero, Nat.xor_zero]
theorem step_double (m : Nat) : step (2 * m) = m := by
  unfold step
  rw [if_neg (by omega), Nat.xor_zero]
  omega
theorem step4_xor (a b : Nat) : step4 (a ^^^ b) = step4 a ^^^ step4 b := by unfold step4; simp only [step_xor]
theorem step4_times (m : Nat) : step4 (16 * m) = m := by
  unfold step4
  rw [show 16 * m = 2 * (2 * (2 * (2 * m))) by omega]
  simp only [step_double]
theorem step4_tab : ∀ r, r < 16 → step4 r = tab.getD r 0 := by decide
theorem parts16 (n : Nat) : n = (16 * (n / 16)) ^^^ (n % 16) := by
  have h := Nat.two_pow_add_eq_or_of_lt (i := 4) (b := n % 16) (by omega) (n / 16)
  have h2 : (2 ^ 4 * (n / 16)) ^^^ (n % 16) = 2 ^ 4 * (n / 16) + n % 16 := by
    rw [h]
    apply Nat.eq_of_testBit_eq
    intro i
    simp only [Nat.testBit_xor, Nat.testBit_or]
    rw [Nat.testBit_two_pow_mul]
    by_cases hi : 4 ≤ i
    · have : (n % 16).testBit i = false := Nat.testBit_lt_two_pow (Nat.lt_of_lt_of_le (by omega : n % 16 < 2 ^ 4) (Nat.pow_le_pow_right (by omega) hi))
      simp [this]
    · simp [hi]
  simp only [Nat.reducePow] at h2
  omega
/-- Four steps by the table. -/
theorem four_tab (n : Nat) : (n / 16) ^^^ tab.getD (n % 16) 0 = step4 n := by
  conv => rhs; rw [parts16 n]
  rw [step4_xor, step4_times, step4_tab _ (Nat.mod_lt _ (by omega))]

theorem xor_cancel {a b c : Nat} (h : a ^^^ c = b ^^^ c) : a = b := by
  have := congrArg (· ^^^ c) h
  simpa [Nat.xor_assoc] using this
theorem step_inj {a b : Nat} (ha : a < 4294967296) (hb : b < 4294967296) (h : step a = step b) : a = b := by
  unfold step at h
  rcases Nat.mod_two_eq_zero_or_one a with h1 | h1 <;> rcases Nat.mod_two_eq_zero_or_one b with h2 | h2 <;> simp only [h1, h2] at h <;> simp at h
  · omega
  · exfalso
    have e : poly = (b / 2) ^^^ (a / 2) := by
      rw [h, ← Nat.xor_assoc, Nat.xor_self, Nat.zero_xor]
    have : (b / 2) ^^^ (a / 2) < 2 ^ 31 := Nat.xor_lt_two_pow (by omega) (by omega)
    rw [← e] at this
    exact absurd this (by decide)
  · exfalso
    have e : poly = (a / 2) ^^^ (b / 2) := by
      rw [← h, ← Nat.xor_assoc, Nat.xor_self, Nat.zero_xor]
    have : (a / 2) ^^^ (b / 2) < 2 ^ 31 := Nat.xor_lt_two_pow (by omega) (by omega)
    rw [← e] at this
    exact absurd this (by decide)
  · have := xor_cancel h
    omega
theorem step4_inj {a b : Nat} (ha : a < 4294967296) (hb : b < 4294967296) (h : step4 a = step4 b) : a = b :=
  step_inj ha hb (step_inj (step_lt ha) (step_lt hb) (step_inj (step_lt (step_lt ha)) (step_lt (step_lt hb)) (step_inj (step_lt (step_lt (step_lt ha))) (step_lt (step_lt (step_lt hb))) h)))
theorem step8_inj {a b : Nat} (ha : a < 4294967296) (hb : b < 4294967296) (h : step8 a = step8 b) : a = b := step4_inj ha hb (step4_inj (step4_lt ha) (step4_lt hb) h)
theorem byte_lt32 (b : UInt8) : b.toNat < 4294967296 := by have := b.toNat_lt; omega
theorem upd_inj {a b : Nat} (ha : a < 4294967296) (hb : b < 4294967296) (c : UInt8) (h : upd a c = upd b c) : a = b :=
  xor_cancel (step8_inj (xor_lt32 ha (byte_lt32 c)) (xor_lt32 hb (byte_lt32 c)) h)
theorem upd_byte {a : Nat} (ha : a < 4294967296) {c d : UInt8} (h : upd a c = upd a d) : c = d := by
  have := step8_inj (xor_lt32 ha (byte_lt32 c)) (xor_lt32 ha (byte_lt32 d)) h
  rw [Nat.xor_comm a, Nat.xor_comm a] at this
  exact UInt8.toNat_inj.1 (xor_cancel this)
theorem run_inj {a b : Nat} (ha : a < 4294967296) (hb : b < 4294967296) (l : List UInt8) (h : run a l = run b l) : a = b := by
  induction l generalizing a b with
  | nil => exact h
  | cons c l ih => exact upd_inj ha hb c (ih (upd_lt ha c) (upd_lt hb c) h)
/-- Texts of one byte's difference have unlike sums. -/
theorem run_apart {a : Nat} (ha : a < 4294967296) (p q : List UInt8) {c d : UInt8} (h : c ≠ d) : run a (p ++ c :: q) ≠ run a (p ++ d :: q) := by
  intro e
  rw [run_append, run_append] at e
  have hp := run_lt ha p
  have := run_inj (upd_lt hp c) (upd_lt hp d) q e
  exact h (upd_byte hp this)
theorem more_apart (s : Nat) (p q : List UInt8) {c d : UInt8} (h : c ≠ d) : more s (p ++ c :: q) ≠ more s (p ++ d :: q) := by
  have h1 := run_apart (a := 4294967295 - s) (by omega) p q h
  have h2 := run_lt (n := 4294967295 - s) (by omega) (p ++ c :: q)
  have h3 := run_lt (n := 4294967295 - s) (by omega) (p ++ d :: q)
  unfold more
  omega
end Go.Proofs.YtlmlopdakbbbjaaGreatDoor

namespace Go.Proofs.YtlmlopdakbbbjaaGreatDoor
open Go.RowKit

/-- The table lies where the program's text lays it. -/
def Tab (w : World) : Prop := 1 < w.heap.size ∧ ∀ i, i < 16 → w.cell? ⟨1, i, none⟩ = some (.int .u32 (tab.getD i 0 : Nat))
theorem Tab.below {w w' : World} {b : Nat} (h : Tab w) (hb : Below b w w') (h0 : 1 < b) : Tab w' := by
  refine ⟨?_, fun i hi => ?_⟩
  · have := hb.size; have := h.1; omega
  · rw [hb.cell (p := ⟨1, i, none⟩) h0]; exact h.2 i hi
theorem Tab.old {w w' : World} (h : Tab w) (hb : Old w w') : Tab w' := h.below hb h.1
theorem Tab.al {w : World} (h : Tab w) (o : Obj) : Tab (w.alloc o) := h.old (old_alloc _ _)

theorem wrap_u32_id (x : Nat) (h : x < 4294967296) : IntKind.u32.wrap (x : Int) = (x : Int) := by
  rw [IntKind.wrap_u32]; omega
theorem xor_u32 (a b : Nat) (ha : a < 4294967296) (hb : b < 4294967296) : bits BinOp.xor IntKind.u32 (a : Int) (b : Int) = ((a ^^^ b : Nat) : Int) := by
  show IntKind.u32.wrap ((BitVec.ofInt 32 (a : Int) ^^^ BitVec.ofInt 32 (b : Int)).toNat : Int) = _
  rw [BitVec.toNat_xor, BitVec.ofInt_natCast, BitVec.ofInt_natCast, BitVec.toNat_ofNat, BitVec.toNat_ofNat, Nat.mod_eq_of_lt (by omega), Nat.mod_eq_of_lt (by omega)]
  exact wrap_u32_id _ (xor_lt32 ha hb)
theorem or_u32 (a b : Nat) (ha : a < 4294967296) (hb : b < 4294967296) : bits BinOp.or IntKind.u32 (a : Int) (b : Int) = ((a ||| b : Nat) : Int) := by
  show IntKind.u32.wrap ((BitVec.ofInt 32 (a : Int) ||| BitVec.ofInt 32 (b : Int)).toNat : Int) = _
  rw [BitVec.toNat_or, BitVec.ofInt_natCast, BitVec.ofInt_natCast, BitVec.toNat_ofNat, BitVec.toNat_ofNat, Nat.mod_eq_of_lt (by omega), Nat.mod_eq_of_lt (by omega)]
  exact wrap_u32_id _ (by have : a ||| b < 2 ^ 32 := Nat.or_lt_two_pow (by omega) (by omega); omega)
theorem tab_lt (i : Nat) (h : i < 16) : tab.getD i 0 < 4294967296 := by
  rw [← step4_tab i h]; exact step4_lt (by omega)

set_option maxHeartbeats 400000 in
theorem four_any (n : Nat) (hn : n < 4294967296) (w : World) (h : Tab w) :
    Calls Tryz.prog 112 #[.int .u32 n] w fun e w' => e = .returned (.int .u32 (step4 n : Nat)) ∧ w = w' := by
  have hm : n % 16 < 16 := Nat.mod_lt _ (by omega)
  have hc := h.2 (n % 16) hm
  go_enter Tryz.func112, Tryz.ntmps112
  go_wp2
  go_ret
  refine ⟨ret_int ?_, rfl⟩
  rw [show ((n : Int) / 16) = ((n / 16 : Nat) : Int) by simp, xor_u32 _ _ (by omega) (by have := tab_lt _ hm; rwa [List.getD_eq_getElem?_getD] at this)]
  congr 1
  have := four_tab n
  rwa [List.getD_eq_getElem?_getD] at this

theorem not_u32 (n : Nat) (h : n < 4294967296) : bits BinOp.xor IntKind.u32 IntKind.u32.max (n : Int) = ((4294967295 - n : Nat) : Int) := by
  have hm : IntKind.u32.max = ((4294967295 : Nat) : Int) := by decide
  rw [hm, xor_u32 _ _ (by omega) h]
  congr 1
  have h3 : (BitVec.allOnes 32 ^^^ BitVec.ofNat 32 n).toNat = (~~~ BitVec.ofNat 32 n).toNat := by rw [BitVec.allOnes_xor]
  rw [BitVec.toNat_xor, BitVec.toNat_not, BitVec.toNat_ofNat, BitVec.toNat_allOnes, Nat.mod_eq_of_lt (by omega)] at h3
  simpa using h3

theorem xor_byte (l : List UInt8) (k : Nat) (hlt : k < l.length) (m : Nat) (hr : m < 4294967296) :
    bits BinOp.xor IntKind.u32 (m : Int) ((((B l)[k]'(by simpa [ByteArray.size] using hlt)).toNat : Int) % 4294967296) = ((m ^^^ l[k].toNat : Nat) : Int) := by
  rw [show (B l)[k]'(by simpa [ByteArray.size] using hlt) = l[k] from rfl]
  have := byte_lt32 l[k]
  rw [Int.emod_eq_of_lt (by omega) (by omega), xor_u32 _ _ hr (byte_lt32 _)]

set_option maxHeartbeats 400000 in
theorem more_any (s : Nat) (hs : s < 4294967296) (l : List UInt8) (hl : l.length ≤ 1000000) (w : World) (h : Tab w) :
    Calls Tryz.prog 90 #[.int .u32 s, .string (B l)] w fun e w' => e = .returned (.int .u32 (more s l : Nat)) ∧ w = w' := by
  have hn := not_u32 s hs
  have hsg : IntKind.u32.signed = false := rfl
  go_enter Tryz.func90, Tryz.ntmps90
  go_wp2_with fail
  go_loop [5, 11] (fun n i => ∃ k : Nat, k ≤ l.length ∧ i = .int .i64 k ∧ n = .int .u32 (run (4294967295 - s) (l.take k) : Nat)) (fun _ i => l.length - (intOf i).toNat)
  case atStart => exact ⟨0, Nat.zero_le _, rfl, rfl⟩
  case round =>
    obtain ⟨k, hk, rfl, rfl⟩ := hrel
    have hr := run_lt (n := 4294967295 - s) (by omega) (l.take k)
    by_cases hlt : k < l.length
    · have hsn : run (4294967295 - s) (l.take (k + 1)) = upd (run (4294967295 - s) (l.take k)) l[k] := by rw [List.take_succ_eq_append_getElem hlt, run_snoc]
      have HS := Lib.hid hsn
      clear hsn
      generalize run (4294967295 - s) (l.take k) = m at *
      have hx := xor_byte l k hlt m hr
      go_wp2_with fail
      refine (four_any _ (xor_lt32 hr (byte_lt32 _)) _ h).mono ?_
      rintro e w1 ⟨rfl, rfl⟩
      go_wp2_with fail
      refine (four_any _ (step4_lt (xor_lt32 hr (byte_lt32 _))) _ h).mono ?_
      rintro e w1 ⟨rfl, rfl⟩
      go_wp2
      go_round
      case rel =>
        refine ⟨k + 1, by omega, by go_num, ?_⟩
        rw [HS.out]
        rfl
      case measure => simp [intOf]; omega
    · have HS := Lib.hid (show more s l = 4294967295 - run (4294967295 - s) (l.take k) by rw [List.take_of_length_le (by omega)]; rfl)
      generalize run (4294967295 - s) (l.take k) = m at *
      have hx := not_u32 m hr
      go_wp2
      go_ret
      refine ⟨ret_int ?_, rfl⟩
      rw [HS.out]

set_option maxHeartbeats 400000 in
theorem sum_any (l : List UInt8) (hl : l.length ≤ 1000000) (w : World) (h : Tab w) :
    Calls Tryz.prog 91 #[.string (B l)] w fun e w' => e = .returned (.int .u32 (sumL l : Nat)) ∧ w = w' := by
  go_enter Tryz.func91, Tryz.ntmps91
  go_wp2_with fail
  refine (more_any 0 (by omega) l hl _ h).mono ?_
  rintro e w1 ⟨rfl, rfl⟩
  go_wp2
  go_ret
  exact ⟨rfl, rfl⟩

set_option maxHeartbeats 400000 in
theorem sumOf_any (a b : List UInt8) (ha : a.length ≤ 1000000) (hb : b.length ≤ 1000000) (w : World) (h : Tab w) :
    Calls Tryz.prog 68 #[.string (B a), .string (B b)] w fun e w' => e = .returned (.int .u32 (sumL (a ++ b) : Nat)) ∧ w = w' := by
  go_enter Tryz.func68, Tryz.ntmps68
  go_wp2_with fail
  refine (sum_any a ha _ h).mono ?_
  rintro e w1 ⟨rfl, rfl⟩
  have HS := Lib.hid (more_append 0 a b)
  go_wp2_with fail
  refine (more_any _ (more_lt _ _) b hb _ h).mono ?_
  rintro e w1 ⟨rfl, rfl⟩
  go_wp2
  go_ret
  refine ⟨ret_int ?_, rfl⟩
  rw [show sumL (a ++ b) = _ from HS.out]

def stepN : Nat → Nat → Nat
  | 0, n => n
  | j + 1, n => step (stepN j n)
theorem stepN_lt (j : Nat) {n : Nat} (h : n < 4294967296) : stepN j n < 4294967296 := by
  induction j with
  | zero => exact h
  | succ j ih => exact step_lt ih

set_option maxHeartbeats 1000000 in
theorem rmore_any (s : Nat) (hs : s < 4294967296) (l : List UInt8) (hl : l.length ≤ 1000000) (w : World) :
    Calls Tryz.prog 94 #[.int .u32 s, .string (B l)] w fun e w' => e = .returned (.int .u32 (more s l : Nat)) ∧ w = w' := by
  have hn : IntKind.u32.wrap (4294967295 - (s : Int)) = ((4294967295 - s : Nat) : Int) := by rw [IntKind.wrap_u32]; omega
  go_enter Tryz.func94, Tryz.ntmps94
  go_wp2_with fail
  go_loop [5, 6] (fun n i => ∃ k : Nat, k ≤ l.length ∧ i = .int .i64 k ∧ n = .int .u32 (run (4294967295 - s) (l.take k) : Nat)) (fun _ i => l.length - (intOf i).toNat)
  case atStart => exact ⟨0, Nat.zero_le _, rfl, congrArg _ (by first | exact hn | rfl)⟩
  case round =>
    obtain ⟨k, hk, rfl, rfl⟩ := hrel
    have hr := run_lt (n := 4294967295 - s) (by omega) (l.take k)
    by_cases hlt : k < l.length
    · have hsn : run (4294967295 - s) (l.take (k + 1)) = upd (run (4294967295 - s) (l.take k)) l[k] := by rw [List.take_succ_eq_append_getElem hlt, run_snoc]
      have HS := Lib.hid hsn
      clear hsn
      generalize run (4294967295 - s) (l.take k) = m at *
      have hx := xor_byte l k hlt m hr
      go_wp2_with fail
      have hm : m ^^^ l[k].toNat < 4294967296 := xor_lt32 hr (byte_lt32 _)
      have HM := Lib.hid (show upd m l[k] = stepN 8 (m ^^^ l[k].toNat) from rfl)
      generalize m ^^^ l[k].toNat = x at *
      go_loop [5, 7] (fun n i => ∃ j : Nat, j ≤ 8 ∧ i = .int .i64 j ∧ n = .int .u32 (stepN j x : Nat)) (fun _ i => 8 - (intOf i).toNat)
      case atStart => exact ⟨0, Nat.zero_le _, rfl, rfl⟩
      case round =>
        obtain ⟨j, hj, rfl, rfl⟩ := hrel
        have hq := stepN_lt j hm
        by_cases hjl : j < 8
        · have HJ := Lib.hid (show stepN (j + 1) x = step (stepN j x) from rfl)
          generalize stepN j x = y at *
          by_cases hp : y % 2 = 1
          · have hp2 : ((y : Int) % 2 == 1) = true := by rw [beq_iff_eq]; omega
            have hx2 : bits BinOp.xor IntKind.u32 ((y : Int) / 2) 3988292384 = ((step y : Nat) : Int) := by
              unfold step
              rw [if_pos hp, show ((y : Int) / 2) = ((y / 2 : Nat) : Int) by simp]
              exact xor_u32 _ poly (by omega) (by decide)
            go_wp2
            go_round
            case rel => exact ⟨j + 1, by omega, by go_num, by rw [HJ.out]⟩
            case measure => simp [intOf]; omega
          · have hp2 : ((y : Int) % 2 == 1) = false := by rw [beq_eq_false_iff_ne]; omega
            go_wp2
            go_round
            case rel =>
              refine ⟨j + 1, by omega, by go_num, ?_⟩
              rw [HJ.out]
              unfold step
              rw [if_neg hp, Nat.xor_zero]
              simp
            case measure => simp [intOf]; omega
        · obtain rfl : j = 8 := by omega
          rw [← HM.out] at hq ⊢
          rw [← HS.out] at hq ⊢
          go_wp2
          go_round
          case rel => exact ⟨k + 1, by omega, by go_num, rfl⟩
          case measure => simp [intOf]; omega
    · have HS := Lib.hid (show more s l = 4294967295 - run (4294967295 - s) (l.take k) by rw [List.take_of_length_le (by omega)]; rfl)
      generalize run (4294967295 - s) (l.take k) = m at *
      go_wp2
      go_ret
      refine ⟨ret_int ?_, rfl⟩
      rw [HS.out]
      omega

set_option maxHeartbeats 400000 in
theorem rsum_any (l : List UInt8) (hl : l.length ≤ 1000000) (w : World) :
    Calls Tryz.prog 72 #[.string (B l)] w fun e w' => e = .returned (.int .u32 (sumL l : Nat)) ∧ w = w' := by
  go_enter Tryz.func72, Tryz.ntmps72
  go_wp2_with fail
  refine (rmore_any 0 (by omega) l hl _).mono ?_
  rintro e w1 ⟨rfl, rfl⟩
  go_wp2
  go_ret
  exact ⟨rfl, rfl⟩
end Go.Proofs.YtlmlopdakbbbjaaGreatDoor

namespace Go.Proofs.YtlmlopdakbbbjaaGreatDoor
open Go.RowKit

def low2 (n : Nat) : List UInt8 := [UInt8.ofNat n, UInt8.ofNat (n / 256)]
def low4 (n : Nat) : List UInt8 := [UInt8.ofNat n, UInt8.ofNat (n / 256), UInt8.ofNat (n / 65536), UInt8.ofNat (n / 16777216)]

set_option maxHeartbeats 1000000 in
theorem low2_any (n : Nat) (w : World) :
    Calls Tryz.prog 103 #[.int .u32 n, .int .i64 2] w fun e w' => e = .returned (.string (B (low2 n))) ∧ Old w w' := by
  go_enter Tryz.func103, Tryz.ntmps103
  go_wp2_with fail
  refine wp_loop_rounds 3 ?_
  rw [rounds_succ]
  go_wp2_with (at_builtin; refine wp_app rfl _ _ rfl rfl ((Own.nil _ w.heap.size).alloc _) [UInt8.ofNat n] w.heap.size 1 1 rfl rfl (new_rowN _ _ _ (by omega)) (by simp) (by simp) ?_; intro v1 w1 ho1 hbl1 hb1)
  rw [rounds_succ]
  go_wp2_with (at_builtin; refine wp_app rfl _ _ rfl rfl (ho1.alloc _) [UInt8.ofNat (n / 256)] w1.heap.size 1 1 rfl rfl (new_rowN _ _ _ (by omega)) (by simp) (by simp; omega) ?_; intro v2 w2 ho2 hbl2 hb2)
  rw [rounds_succ]
  have hcv := run_str ho2
  go_wp2
  go_ret
  refine ⟨rfl, ?_⟩
  exact (((Below.refl _ _).alloc (Nat.le_refl _) _).trans hbl1 |>.alloc hb1 _).trans hbl2

set_option maxHeartbeats 1000000 in
theorem low4_any (n : Nat) (hn : n < 4294967296) (w : World) :
    Calls Tryz.prog 103 #[.int .u32 n, .int .i64 4] w fun e w' => e = .returned (.string (B (low4 n))) ∧ Old w w' := by
  go_enter Tryz.func103, Tryz.ntmps103
  go_wp2_with fail
  refine wp_loop_rounds 5 ?_
  rw [rounds_succ]
  go_wp2_with (at_builtin; refine wp_app rfl _ _ rfl rfl ((Own.nil _ w.heap.size).alloc _) [UInt8.ofNat n] w.heap.size 1 1 rfl rfl (new_rowN _ _ _ (by omega)) (by simp) (by simp) ?_; intro v1 w1 ho1 hbl1 hb1)
  rw [rounds_succ]
  go_wp2_with (at_builtin; refine wp_app rfl _ _ rfl rfl (ho1.alloc _) [UInt8.ofNat (n / 256)] w1.heap.size 1 1 rfl rfl (new_rowN _ _ _ (by omega)) (by simp) (by simp; omega) ?_; intro v2 w2 ho2 hbl2 hb2)
  rw [rounds_succ]
  go_wp2_with (at_builtin; refine wp_app rfl _ _ rfl rfl (ho2.alloc _) [UInt8.ofNat (n / 65536)] w2.heap.size 1 1 rfl rfl (new_rowN _ _ _ (by omega)) (by simp) (by simp; omega) ?_; intro v3 w3 ho3 hbl3 hb3)
  rw [rounds_succ]
  go_wp2_with (at_builtin; refine wp_app rfl _ _ rfl rfl (ho3.alloc _) [UInt8.ofNat (n / 16777216)] w3.heap.size 1 1 rfl rfl (new_rowN _ _ _ (by omega)) (by simp) (by simp; omega) ?_; intro v4 w4 ho4 hbl4 hb4)
  rw [rounds_succ]
  have hcv := run_str ho4
  go_wp2
  go_ret
  refine ⟨rfl, ?_⟩
  exact (((((Below.refl _ _).alloc (Nat.le_refl _) _).trans hbl1 |>.alloc hb1 _).trans hbl2 |>.alloc hb2 _).trans hbl3 |>.alloc hb3 _).trans hbl4

theorem lowV_inj : ∀ {l m : List UInt8}, l.length = m.length → lowV l = lowV m → l = m
  | [], [], _, _ => rfl
  | b :: l, c :: m, hl, h => by
    have hb := b.toNat_lt
    have hc := c.toNat_lt
    simp only [lowV, List.foldr_cons] at h
    have h1 : b.toNat = c.toNat := by omega
    have h2 : lowV l = lowV m := by unfold lowV; omega
    rw [UInt8.toNat_inj.1 h1, lowV_inj (by simpa using hl) h2]
theorem lowV_low2 (n : Nat) (h : n < 65536) : lowV (low2 n) = n := by simp [lowV, low2]; omega
theorem lowV_low4 (n : Nat) (h : n < 4294967296) : lowV (low4 n) = n := by simp [lowV, low4]; omega

theorem c_or_low (a b k : Nat) (ha : a < 256 ^ k) (hb : b < 256) (hk : k < 4) :
    bits BinOp.or IntKind.u32 (a : Int) (((b : Int) % 4294967296 * 2 ^ (8 * k)) % 4294967296) = ((a + 256 ^ k * b : Nat) : Int) := by
  have h7 : 256 ^ k ≤ 256 ^ 3 := Nat.pow_le_pow_right (by omega) (by omega)
  have h1 : b * 256 ^ k ≤ 255 * 256 ^ 3 := Nat.mul_le_mul (by omega) h7
  rw [Int.emod_eq_of_lt (a := (b : Int)) (by omega) (by omega)]
  have e : ((b : Int) * 2 ^ (8 * k)) = ((b * 256 ^ k : Nat) : Int) := by
    rw [← pow8]; simp
  rw [e, Int.emod_eq_of_lt (by omega) (by omega), or_u32 _ _ (by omega) (by omega)]
  congr 1
  rw [Nat.or_comm, Nat.mul_comm b, ← pow8, ← Nat.two_pow_add_eq_or_of_lt (by rw [pow8]; exact ha), Nat.add_comm]

set_option maxHeartbeats 1000000 in
theorem number_any (t : List UInt8) (w : World) (hlen : t.length ≤ 4) :
    Calls Tryz.prog 67 #[.string (B t)] w fun r w' => r = .returned (.int .u32 (lowV t)) ∧ w = w' := by
  go_enter Tryz.func67, Tryz.ntmps67
  go_wp2
  go_loop [3, 7] (fun n i => ∃ k : Nat, k ≤ t.length ∧ i = .int .i64 k ∧ n = .int .u32 (lowV (t.take k))) (fun _ i => t.length - (intOf i).toNat)
  case atStart => exact ⟨0, Nat.zero_le _, rfl, rfl⟩
  case round =>
    obtain ⟨k, hk, rfl, rfl⟩ := hrel
    by_cases hlt : k < t.length
    · go_wp2
      go_round
      case rel =>
        refine ⟨k + 1, by omega, by go_num, ?_⟩
        congr 1
        have hl1 := lowV_lt (t.take k)
        have hl2 : (t.take k).length = k := by simp; omega
        rw [hl2] at hl1
        refine (c_or_low _ (t[k].toNat) k hl1 t[k].toNat_lt (by omega)).trans ?_
        rw [List.take_succ_eq_append_getElem hlt, lowV_snoc, hl2]
      case measure => simp [intOf]; omega
    · go_wp2
      go_ret
      refine ⟨ret_int ?_, rfl⟩
      rw [List.take_of_length_le (by omega)]
end Go.Proofs.YtlmlopdakbbbjaaGreatDoor

namespace Go.Proofs.YtlmlopdakbbbjaaGreatDoor
open Go.RowKit

/-- A text with its length and its sum ahead. -/
def put (l : List UInt8) : List UInt8 := low2 l.length ++ low4 (sumL (low2 l.length ++ l)) ++ l
theorem put_length (l : List UInt8) : (put l).length = 6 + l.length := by simp [put, low2, low4]; omega

set_option maxHeartbeats 1000000 in
theorem put_no (l : List UInt8) (h : 65535 < l.length) (hl : l.length ≤ 1000000) (w : World) :
    Calls Tryz.prog 77 #[.string (B l)] w fun e w' => e = .returned (.tuple #[.string (B []), .int .i64 71]) ∧ w = w' := by
  go_enter Tryz.func77, Tryz.ntmps77
  go_wp2
  go_ret2
  exact ⟨rfl, rfl⟩

set_option maxHeartbeats 1000000 in
theorem put_yes (l : List UInt8) (h : l.length ≤ 65535) (w : World) (ht : Tab w) :
    Calls Tryz.prog 77 #[.string (B l)] w fun e w' => e = .returned (.tuple #[.string (B (put l)), .int .i64 0]) ∧ Old w w' := by
  go_enter Tryz.func77, Tryz.ntmps77
  go_wp2_with fail
  refine (low2_any l.length _).mono ?_
  rintro e w1 ⟨rfl, h1⟩
  have HP := Lib.hid (show put l = low2 l.length ++ low4 (sumL (low2 l.length ++ l)) ++ l from rfl)
  have ha : (low2 l.length).length = 2 := rfl
  generalize low2 l.length = a at *
  go_wp2_with fail
  refine (sumOf_any a l (by omega) (by omega) _ (ht.old h1)).mono ?_
  rintro e w2 ⟨rfl, rfl⟩
  have hs : sumL (a ++ l) < 4294967296 := more_lt _ _
  generalize sumL (a ++ l) = n at *
  go_wp2_with fail
  refine (low4_any _ hs _).mono ?_
  rintro e w2 ⟨rfl, h2⟩
  have hb : (low4 n).length = 4 := rfl
  generalize low4 n = b at *
  go_wp2
  go_ret2
  refine ⟨?_, h1.tr h2⟩
  show Ending.returned (.tuple #[.string (B a ++ B b ++ B l), .int .i64 0]) = _
  rw [HP.out, add_B, add_B]

/-- What Get tells: the text, how many bytes it takes, the error. -/
def getV (l : List UInt8) : List UInt8 × Nat × Nat :=
  if l = [] then ([], 0, 3)
  else if l.length < 6 then ([], 0, 10)
  else if l.length - 6 < lowV (l.take 2) then ([], 0, 10)
  else if sumL (l.take 2 ++ (l.drop 6).take (lowV (l.take 2))) = lowV ((l.drop 2).take 4) then ((l.drop 6).take (lowV (l.take 2)), 6 + lowV (l.take 2), 0)
  else ([], 0, 20)
def getR (l : List UInt8) : Value := .tuple #[.string (B (getV l).1), .int .i64 ((getV l).2.1 : Nat), .int .i64 ((getV l).2.2 : Nat)]

/-- Nothing happened but draws. -/
def Drawn (w w' : World) : Prop := ∃ n, w' = w.drewN n
theorem Drawn.re (w : World) : Drawn w w := ⟨0, rfl⟩
theorem Drawn.old {w w' : World} (h : Drawn w w') : Old w w' := by
  obtain ⟨n, rfl⟩ := h
  exact (Old.re _).dn n
theorem Tab.dn {w : World} (h : Tab w) (n : Nat) : Tab (w.drewN n) := h.old ((Old.re _).dn n)

set_option maxHeartbeats 1000000 in
theorem get_any (l : List UInt8) (hl : l.length ≤ 1000000) (w : World) (ht : Tab w) :
    Calls Tryz.prog 35 #[.string (B l)] w fun e w' => e = .returned (getR l) ∧ Drawn w w' := by
  by_cases h0 : l = []
  · subst h0
    go_enter Tryz.func35, Tryz.ntmps35
    go_wp2
    go_ret3
    exact ⟨rfl, Drawn.re _⟩
  have he : l.isEmpty = false := by simpa using h0
  have hpos : 0 < l.length := List.length_pos_iff.2 h0
  by_cases h6 : l.length < 6
  · have HV := Lib.hid (show getV l = ([], 0, 10) by rw [getV, if_neg h0, if_pos h6])
    go_enter Tryz.func35, Tryz.ntmps35
    go_wp2
    go_ret3
    refine ⟨?_, Drawn.re _⟩
    rw [getR, HV.out]
    rfl
  have HV := Lib.hid (show getV l = if l.length - 6 < lowV (l.take 2) then ([], 0, 10)
    else if sumL (l.take 2 ++ (l.drop 6).take (lowV (l.take 2))) = lowV ((l.drop 2).take 4) then ((l.drop 6).take (lowV (l.take 2)), 6 + lowV (l.take 2), 0)
    else ([], 0, 20) by rw [getV, if_neg h0, if_neg h6])
  have x2 : (B l).extract 0 2 = B (l.take 2) := ext_take _ _
  have x4 : (B l).extract 2 6 = B ((l.drop 2).take 4) := ext_B _ _ _
  have x6 : (B l).extract 6 l.length = B (l.drop 6) := ext_drop _ _ _ (Nat.le_refl _)
  have l2 : (l.take 2).length = 2 := by simp; omega
  have l4 : ((l.drop 2).take 4).length = 4 := by simp; omega
  have l6 : (l.drop 6).length = l.length - 6 := by simp
  go_enter Tryz.func35, Tryz.ntmps35
  go_wp2_with fail
  go_quiet (fail)
  go_wp2_with fail
  clear x2 x4 x6
  generalize l.take 2 = a at *
  generalize (l.drop 2).take 4 = b at *
  generalize l.drop 6 = c at *
  refine (number_any a _ (by omega)).mono ?_
  rintro e w1 ⟨rfl, rfl⟩
  have hn : lowV a < 65536 := by have := lowV_lt a; rw [l2] at this; omega
  generalize lowV a = n at *
  by_cases hcn : c.length < n
  · rw [if_pos (by omega)] at HV
    go_wp2
    go_ret3
    refine ⟨?_, _, rfl⟩
    rw [getR, HV.out]
    rfl
  have xn : (B c).extract 0 n = B (c.take n) := ext_take _ _
  rw [if_neg (by omega)] at HV
  go_wp2_with fail
  clear xn
  generalize hcd : c.take n = d at *
  have hd : d.length ≤ 65535 := by rw [← hcd]; simp; omega
  refine (sumOf_any a d (by omega) (by omega) _ (ht.dn _)).mono ?_
  rintro e w2 ⟨rfl, rfl⟩
  generalize sumL (a ++ d) = s at *
  go_wp2_with fail
  refine (number_any b _ (by omega)).mono ?_
  rintro e w2 ⟨rfl, rfl⟩
  generalize lowV b = t at *
  by_cases hst : s = t
  · rw [if_pos hst] at HV
    subst hst
    go_wp2
    go_ret3
    refine ⟨?_, _, rfl⟩
    rw [getR, HV.out]
    show Ending.returned (.tuple #[.string (B d), .int .i64 (6 + (n : Int)), .int .i64 0]) = Ending.returned (.tuple #[.string (B d), .int .i64 ((6 + n : Nat) : Int), .int .i64 ((0 : Nat) : Int)])
    rw [Int.natCast_add]
    rfl
  · rw [if_neg hst] at HV
    have hst2 : ((s : Int) != (t : Int)) = true := by rw [bne_iff_ne]; omega
    go_wp2
    go_ret3
    refine ⟨?_, _, rfl⟩
    rw [getR, HV.out]
    rfl

/-- What was put is got, whatever lies behind it. -/
theorem getV_put (l r : List UInt8) (h : l.length ≤ 65535) : getV (put l ++ r) = (l, 6 + l.length, 0) := by
  have h1 : (put l ++ r).length = 6 + l.length + r.length := by rw [List.length_append, put_length]
  have e2 : (put l ++ r).take 2 = low2 l.length := by simp [put, low2]
  have e4 : ((put l ++ r).drop 2).take 4 = low4 (sumL (low2 l.length ++ l)) := by simp [put, low2, low4]
  have e6 : (put l ++ r).drop 6 = l ++ r := by simp [put, low2, low4]
  unfold getV
  rw [if_neg (by intro e; rw [e] at h1; simp at h1; omega), if_neg (by omega), e2, e4, e6, lowV_low2 _ (by omega), if_neg (by omega), List.take_left' rfl, lowV_low4 (sumL _) (more_lt _ _), if_pos rfl]
theorem getR_of {l t : List UInt8} {n e : Nat} (h : getV l = (t, n, e)) : getR l = .tuple #[.string (B t), .int .i64 n, .int .i64 e] := by
  unfold getR
  rw [h]

theorem shown_sum : sumL [49, 50, 51, 52, 53, 54, 55, 56, 57] = 3421780262 := by decide +kernel
theorem shown_get : getV (put [97, 98] ++ [120]) = ([97, 98], 8, 0) := getV_put [97, 98] [120] (by decide)

end Go.Proofs.YtlmlopdakbbbjaaGreatDoor

namespace Go.Proofs.YtlmlopdakbbbjaaGreatDoor
open Go.RowKit

/-- A slice at A of these texts. -/
def Strs (w : World) (A : Option Addr) (cap : Nat) (l : List (List UInt8)) : Prop :=
  l.length ≤ cap ∧ ∀ (i : Nat) (t : List UInt8), l[i]? = some t → t.length ≤ maxLen ∧ ∃ b off, A = some ⟨b, off, none⟩ ∧ w.cell? ⟨b, off + i, none⟩ = some (.string (B t))
theorem Strs.at_ {w : World} {A : Option Addr} {cap : Nat} {l : List (List UInt8)} (h : Strs w A cap l) (i : Nat) (hi : i < l.length) : l[i].length ≤ maxLen ∧ ∃ b off, A = some ⟨b, off, none⟩ ∧ w.cell? ⟨b, off + i, none⟩ = some (.string (B l[i])) := h.2 i _ (List.getElem?_eq_getElem hi)
theorem Strs.old {w W : World} {A : Option Addr} {cap : Nat} {l : List (List UInt8)} (h : Strs w A cap l) (k : Old w W) : Strs W A cap l := by
  refine ⟨h.1, fun i t ht => ?_⟩
  obtain ⟨h1, b, off, rfl, h2⟩ := h.2 i t ht
  exact ⟨h1, b, off, rfl, cell_old h2 k⟩

end Go.Proofs.YtlmlopdakbbbjaaGreatDoor

namespace Go.Proofs.YtlmlopdakbbbjaaGreatDoor
open Go.RowKit Go.Shelf

attribute [local go_sem] Oper.semAt_some

theorem getV_ok {l : List UInt8} (h : (getV l).2.2 = 0) : (getV l).2.1 = 6 + (getV l).1.length ∧ 6 + (getV l).1.length ≤ l.length ∧ (getV l).1.length ≤ 65535 := by
  unfold getV at h ⊢
  split at h
  · cases h
  split at h
  · cases h
  split at h
  · cases h
  split at h
  · rename_i h1 h2 h3 h4
    rw [if_neg h1, if_neg h2, if_neg h3, if_pos h4]
    have h5 := lowV_lt (l.take 2)
    have h6 : (l.take 2).length = 2 := by simp; omega
    rw [h6] at h5
    simp only [List.length_take, List.length_drop]
    omega
  · cases h

/-- The texts that were put one behind the other, up to the first that is none. -/
def allV (l : List UInt8) : List (List UInt8) := if _h : (getV l).2.2 = 0 then (getV l).1 :: allV (l.drop (6 + (getV l).1.length)) else []
termination_by l.length
decreasing_by
  have := getV_ok _h
  simp only [List.length_drop]
  omega
theorem allV_yes {l : List UInt8} (h : (getV l).2.2 = 0) : allV l = (getV l).1 :: allV (l.drop (6 + (getV l).1.length)) := by rw [allV, dif_pos h]
theorem allV_no {l : List UInt8} (h : ¬ (getV l).2.2 = 0) : allV l = [] := by rw [allV, dif_neg h]
/-- How many bytes they take. -/
def took (l : List (List UInt8)) : Nat := (l.map fun t => 6 + t.length).sum
theorem took_snoc (l : List (List UInt8)) (t : List UInt8) : took (l ++ [t]) = took l + (6 + t.length) := by simp [took]
theorem getR_yes {l : List UInt8} (h : (getV l).2.2 = 0) : getR l = .tuple #[.string (B (getV l).1), .int .i64 (6 + ((getV l).1.length : Int)), .int .i64 0] := by
  unfold getR
  rw [h, (getV_ok h).1]
  rfl

/-- A text that can be put. -/
abbrev Txt := { t : List UInt8 // t.length ≤ 65535 }
def txts (l : List Txt) : List (List UInt8) := l.map (·.1)
theorem txts_snoc (l : List Txt) (x : Txt) : txts (l ++ [x]) = txts l ++ [x.1] := by simp [txts]
theorem txts_len (l : List Txt) : (txts l).length = l.length := by simp [txts]
abbrev encT (x : Txt) : Array Value := #[.string (B x.1), .int .i64 (6 + (x.1.length : Int))]
def strLen : Value → Nat
  | .string b => b.size
  | _ => 0

theorem J_drawn {J : List Txt → World → Prop} {b : Nat} (hJ : AbidesFrom b J) {pre : List Txt} {w w' : World} (h : J pre w) (hd : Drawn w w') : J pre w' := by
  obtain ⟨n, rfl⟩ := hd
  exact hJ pre w _ none h ⟨rfl, rfl, rfl, Nat.le_refl _, fun _ _ _ => rfl⟩ (fun r e => by cases e)

set_option maxRecDepth 100000 in
set_option maxHeartbeats 2000000 in
theorem each1_in (n : Nat) (hn : 1 ≤ n) (l Bn n₀ B0 : Nat) (s : List UInt8) (hs : s.length ≤ 1000000) (hn0 : 1 < n₀) (J Jx : List Txt → World → Prop) (hJ : AbidesFrom B0 J)
    (hY : ∀ pre x W, J pre W → pre.length < (allV s).length → YieldAt Fence.wide (n - 1) Tryz.prog l (encT x) W fun e W' =>
      (e = .returned (.bool true) ∧ J (pre ++ [x]) W' ∧ Below n₀ W W') ∨ (e = .returned (.bool false) ∧ Jx (pre ++ [x]) W'))
    (W : World) (hBn : W.cell? ⟨Bn, 0, none⟩ = some (.string (B s))) (ht : Tab W) (h0 : J [] W) :
    CallsIn Fence.wide n Tryz.prog 108 #[.func (.yield l) #[] #[], .pointer (some ⟨Bn, 0, none⟩)] W fun e W' => (∃ v, e = .returned v) ∧
      ((∃ ys : List Txt, txts ys = allV s ∧ J ys W') ∨ (∃ pre : List Txt, True ∧ Jx pre W')) := by
  refine callsIn_of_wp Tryz.func108 rfl trivial ?_ rfl
  simp only [Tryz.ntmps108, List.size_toArray, List.length_cons, List.length_nil, Nat.reduceAdd, Nat.reduceSub, Array.replicate_succ, Array.replicate_zero, List.push_toArray, List.append_toArray, List.nil_append, List.cons_append]
  gi_wp2
  gi_loopw [3] (fun v wr => ∃ (pre : List Txt) (rest : List UInt8), v = .string (B rest) ∧ rest.length ≤ 1000000 ∧ allV s = txts pre ++ allV rest ∧ J pre wr ∧ Tab wr)
    (fun v _ => strLen v)
  case atStart => exact ⟨[], s, rfl, hs, rfl, h0, ht⟩
  case round =>
    obtain ⟨pre, rest, rfl, hr, hx, hJs, hts⟩ := hrel
    by_cases hg : (getV rest).2.2 = 0
    · obtain ⟨-, hle, h16⟩ := getV_ok hg
      have hv := getV_ok hg
      have HR := Lib.hid (getR_yes hg)
      have HA := Lib.hid (allV_yes hg)
      generalize (getV rest).1 = t at *
      gi_wp2_with fail
      refine ⟨trivial, (callsIn_wide.2 (get_any rest hr _ hts)).mono ?_⟩
      rintro e w1 ⟨rfl, hd⟩
      rw [HR.out]
      have hJ1 := J_drawn hJ hJs hd
      have ht1 := hts.old hd.old
      clear hd hJs hts
      obtain ⟨fn, tmps, assign, body, hy, hR⟩ := hY pre ⟨t, h16⟩ w1 hJ1 (by rw [hx, HA.out]; simp [txts_len])
      dsimp only [encT] at hy
      have xd : (B rest).extract (6 + t.length) rest.length = B (rest.drop (6 + t.length)) := ext_drop _ _ _ (Nat.le_refl _)
      gi_wp2_with fail
      refine hR.mono ?_
      rintro e W3 (⟨rfl, hJ3, hk3⟩ | ⟨rfl, hJx3⟩)
      · gi_wp2
        refine ⟨⟨pre ++ [⟨t, h16⟩], rest.drop (6 + t.length), by rw [xd], by simp; omega, ?_, hJ3, ht1.below hk3 hn0⟩, ?_⟩
        · rw [hx, HA.out, txts_snoc]; simp
        · rw [xd]; simp [strLen, ByteArray.size]; omega
      · gi_wp2
        refine bodyPost_ret (results_none rfl _ _ _) rfl ?_
        exact ⟨⟨_, rfl⟩, .inr ⟨pre ++ [⟨t, h16⟩], trivial, hJx3⟩⟩
    · have hg2 : (((getV rest).2.2 : Nat) : Int) ≠ 0 := by omega
      have HR := Lib.hid (show getR rest = .tuple #[.string (B (getV rest).1), .int .i64 ((getV rest).2.1 : Nat), .int .i64 ((getV rest).2.2 : Nat)] from rfl)
      have HA := Lib.hid (allV_no hg)
      generalize ((getV rest).2.2 : Int) = e1 at *
      have hg3 : (e1 != 0) = true := by simpa using hg2
      gi_wp2_with fail
      refine ⟨trivial, (callsIn_wide.2 (get_any rest hr _ hts)).mono ?_⟩
      rintro e w1 ⟨rfl, hd⟩
      rw [HR.out]
      gi_wp2
      refine ⟨fun _ h => (by cases h), ?_⟩
      gi_wp2
      refine bodyPost_ret (results_none rfl _ _ _) rfl ?_
      exact ⟨⟨_, rfl⟩, .inl ⟨pre, by rw [hx, HA.out]; simp, J_drawn hJ hJs hd⟩⟩

set_option maxHeartbeats 1000000 in
theorem each_in (n : Nat) (s : List UInt8) (w : World) :
    CallsIn Fence.wide n Tryz.prog 88 #[.string (B s)] w fun e w' => e = .returned (.func (.func 108) #[] #[.pointer (some ⟨w.heap.size, 0, none⟩)]) ∧ w' = w.alloc (.cells #[.string (B s)] 9) := by
  refine callsIn_of_wp Tryz.func88 rfl trivial ?_ rfl
  simp only [Tryz.ntmps88, List.size_toArray, List.length_cons, List.length_nil, Nat.reduceAdd, Nat.reduceSub, Array.replicate_succ, Array.replicate_zero, List.push_toArray, List.append_toArray, List.nil_append, List.cons_append]
  gi_wp2
  go_ret
  exact ⟨rfl, rfl⟩

theorem each_stops (n : Nat) (hn : 1 ≤ n) (Bn n₀ : Nat) (s : List UInt8) (hs : s.length ≤ 1000000) (w : World) (hBn : Bn < w.heap.size) (hn₀ : 1 < n₀)
    (hc : w.cell? ⟨Bn, 0, none⟩ = some (.string (B s))) (ht : Tab w) :
    SeqStopsK Fence.wide n Tryz.prog 108 #[.pointer (some ⟨Bn, 0, none⟩)] encT (Below n₀) (fun ys => txts ys = allV s) (fun _ => True) (allV s).length w := fun l J Jx W hW hJ _ hY h0 =>
  each1_in n hn l Bn n₀ W.heap.size s hs hn₀ J Jx hJ hY W ((hW.cell (p := ⟨Bn, 0, none⟩) hBn).trans hc) (ht.old hW) h0

theorem Tryz.infoStr : (Tryz.prog.info? 9).map (fun i => (i.zero, i.size, i.bytes)) = some (some (.string ByteArray.empty), 1, 16) := by kernel_rfl
/-- Texts as cells. -/
def ts (l : List (List UInt8)) : List Value := l.map fun t => .string (B t)
def tsX (l : List Txt) : List Value := ts (txts l)
theorem tsX_snoc (l : List Txt) (x : Txt) : tsX (l ++ [x]) = tsX l ++ [.string (B x.1)] := by simp [tsX, ts, txts_snoc]
theorem took_le (l : List Txt) : took (txts l) ≤ l.length * 65541 := by
  induction l with
  | nil => simp [took, txts]
  | cons x l ih =>
    have := x.2
    simp only [took, txts, List.map_cons, List.sum_cons, List.length_cons] at *
    omega
theorem allV_len (l : List UInt8) : 6 * (allV l).length ≤ l.length := by
  induction h : l.length using Nat.strongRecOn generalizing l with
  | _ n ih =>
    by_cases hg : (getV l).2.2 = 0
    · rw [allV_yes hg]
      obtain ⟨-, h1, -⟩ := getV_ok hg
      have := ih (l.drop (6 + (getV l).1.length)).length (by simp; omega) _ rfl
      simp only [List.length_cons, List.length_drop] at *
      omega
    · rw [allV_no hg]; simp

set_option maxRecDepth 100000 in
set_option maxHeartbeats 2000000 in
theorem all_in (n : Nat) (hn : 3 ≤ n) (s : List UInt8) (hs : s.length ≤ 1000000) (w : World) (ht : Tab w) :
    CallsIn Fence.wide n Tryz.prog 65 #[.string (B s)] w fun e W' => ∃ v, e = .returned (.tuple #[v, .int .i64 (took (allV s) : Nat)]) ∧ W'.ownsRow w.heap.size 9 1 v (allV s).length (ts (allV s)) ∧ Below w.heap.size w W' := by
  have h1 : 1 ≤ n := by omega
  have hal := allV_len s
  obtain ⟨i0, hi, hz0, hz1, hz2⟩ := info_parts Tryz.infoStr
  refine callsIn_of_wp_marks Tryz.func65 rfl trivial ?_ rfl
  simp only [Tryz.ntmps65, List.size_toArray, List.length_cons, List.length_nil, Nat.reduceAdd, Nat.reduceSub, Array.replicate_succ, Array.replicate_zero, List.push_toArray, List.append_toArray, List.nil_append, List.cons_append]
  gi_wp2_with (refine ⟨trivial, ?_⟩; gi_at_call 88; refine (each_in (n - 1) s _).mono ?_; rintro e w' ⟨rfl, rfl⟩)
  have hpos := ht.1
  have bO := ((Boxed.new w 45 (.slice none 0 0)).alloc (.cells #[.int .i64 0] 3)).alloc (.cells #[.string (B s)] 9)
  have bT := (Boxed.new (w.alloc (.cells #[.slice none 0 0] 45)) 3 (.int .i64 0)).alloc (.cells #[.string (B s)] 9)
  have bS := Boxed.new ((w.alloc (.cells #[.slice none 0 0] 45)).alloc (.cells #[.int .i64 0] 3)) 9 (.string (B s))
  rw [World.size_alloc] at bT
  rw [World.size_alloc, World.size_alloc] at bS
  have hB0 : Below w.heap.size w (((w.alloc (.cells #[.slice none 0 0] 45)).alloc (.cells #[.int .i64 0] 3)).alloc (.cells #[.string (B s)] 9)) := (((Below.refl _ w).alloc (Nat.le_refl _) _).alloc (by simp) _).alloc (by simp; omega) _
  refine wpIn_rangeFunc_ownG rfl h1 (gf := 108) (lb := #[.pointer (some ⟨w.heap.size + 1 + 1, 0, none⟩)]) rfl trivial (enters_of Tryz.func108 (by kernel_rfl) rfl)
    (each_stops (n - 1) (by omega) (w.heap.size + 1 + 1) w.heap.size s hs _ (by simp) hpos bS.cell (ht.old hB0)) belowK_t (belowK_b (by simp; omega)) (Below.refl _ _) (fun _ => rfl)
    (fun pre W => ((∃ v, Boxed W w.heap.size 45 v ∧ W.ownsRow w.heap.size 9 1 v pre.length (tsX pre) ∧ True) ∧ Boxed W (w.heap.size + 1) 3 (.int .i64 (took (txts pre) : Nat))) ∧ Below w.heap.size w W)
    (fun _ _ _ => False)
    (OwnFrom.and (OwnFrom.and (Own.from (holdsRow_own w.heap.size w.heap.size 45 9 1 (fun pre : List Txt => pre.length) (fun pre => tsX pre) (fun _ _ => True)) _) (Own.from (boxed_own (w.heap.size + 1) 3 (fun pre : List Txt => .int .i64 (took (txts pre) : Nat))) _)) (ownFrom_below (Nat.le_refl _) (by simp; omega)))
    (fun _ _ _ _ _ hs _ _ => hs)
    ⟨⟨⟨_, bO, World.ownsRow_nil _ _ _ _, trivial⟩, bT⟩, hB0⟩
    (fun x => { tmps := #[.string (B s), undef, .slice none 0 0, .int .i64 0, .pointer (some ⟨w.heap.size, 0, none⟩), .pointer (some ⟨w.heap.size + 1, 0, none⟩), .string (B x.1), .int .i64 (6 + (x.1.length : Int)), .string (B s), .func (.func 108) #[] #[.pointer (some ⟨w.heap.size + 1 + 1, 0, none⟩)], .string (B x.1), .int .i64 (6 + (x.1.length : Int)), undef, undef, undef, undef, undef, undef, undef, undef, undef], defers := [] }) ?assign ?body ?done ?stop
  case assign =>
    intro l x W K hK
    gi_wp2
    exact hK
  case body =>
    rintro l pre x W ⟨⟨⟨v, hv, hrow, -⟩, hT⟩, hB⟩ hlt
    have hc := hv.cell
    have hx2 := x.2
    have htk := took_le pre
    gi_wp2_with (gi_at_builtin; refine wpListIn_append_own _ rfl _ _ 45 rfl w.heap.size 9 i0 (.string ByteArray.empty) 1 16 Tryz.underlying45 hi hz0 hz1 hz2 rfl (by decide) _ _ _ rfl (hrow.alloc _) ⟨W.heap.size, 0, none⟩ 1 1 [.string (B x.1)] rfl rfl (cell_one_new _ _ _) (by simp [Value.oneCell']) (by unfold maxLen; omega) (by omega) (by have := hB.size; simp; omega) ?_; intro v' w1 hown' hgrow _; obtain ⟨g', cap', rfl⟩ := ownsRow_succ hown'; obtain ⟨hv1, hv2, hr2, hk2, hb2⟩ := hv.appended (by decide) hrow hB.size (Nat.le_refl _) hown' hgrow; have hc1 := hv1.cell; have hf1 := hv1.frozen; have hT2 := ((hT.alloc _).kept hgrow (hT.not_row (by decide) hrow)).other (B' := w.heap.size) (by omega) (.slice (some ⟨g', 0, none⟩) (pre.length + 1) cap'); have hcT := hT2.cell; have hfT := hT2.frozen)
    have hr3 := hr2.kept (grownBy_setCell' _ (w.heap.size + 1) (.int .i64 ((took (txts (pre ++ [x])) : Nat) : Int))) (.inr (hT2.not_row (by decide) hr2).symm)
    have hb3 : Below w.heap.size W (((w1.setCell ⟨w.heap.size, 0, none⟩ (.slice (some ⟨g', 0, none⟩) (pre.length + 1) cap'))).setCell ⟨w.heap.size + 1, 0, none⟩ (.int .i64 ((took (txts (pre ++ [x])) : Nat) : Int))) := hb2.setCell (p := ⟨w.heap.size + 1, 0, none⟩) (by simp) _
    rw [show ((took (txts pre) : Nat) : Int) + (6 + (x.1.length : Int)) = ((took (txts (pre ++ [x])) : Nat) : Int) by rw [txts_snoc, took_snoc]; omega]
    refine ⟨(hk2.trans (KeepsOthers.setCell _ _ _)).from _, hb3, ⟨⟨_, hv2.other (by omega) _, ?_, trivial⟩, hT2.set _⟩, hB.trans hb3⟩
    rw [tsX_snoc]
    simpa using hr3
  case done =>
    rintro D ys W hD hys ⟨⟨⟨v, hv, hrow, -⟩, hT⟩, hB⟩ hK
    have hc := hv.cell
    have hcT := hT.cell
    gi_wp2
    gi_region
    all_goals gi_wp2
    all_goals refine ⟨by simp, .inl ⟨_, _, rfl, run_takeDeferred hK, ?_⟩⟩
    all_goals exact ⟨_, results_tmp2 rfl _ _ _, v, rfl, by rw [← hys, txts_len]; exact ownsRow_putObj (W := W.drew) hrow _ hK rfl, hB.trans ((Below.refl _ W).drew.trans (belowK_b (w := w) (Nat.le_refl _) W.drew D _ _ (by simp at hD; omega) hK rfl rfl))⟩
  case stop =>
    rintro D c pre W _ _ h _
    exact h.elim
end Go.Proofs.YtlmlopdakbbbjaaGreatDoor

namespace Go.Proofs.YtlmlopdakbbbjaaGreatDoor
open Go.RowKit Go.Shelf

theorem allV_small (l : List UInt8) : ∀ t ∈ allV l, t.length ≤ 65535 := by
  induction h : l.length using Nat.strongRecOn generalizing l with
  | _ n ih =>
    by_cases hg : (getV l).2.2 = 0
    · rw [allV_yes hg]
      obtain ⟨-, h1, h2⟩ := getV_ok hg
      intro t ht
      rcases List.mem_cons.1 ht with rfl | ht
      · exact h2
      · exact ih (l.drop (6 + (getV l).1.length)).length (by simp; omega) _ rfl t ht
    · rw [allV_no hg]; simp
theorem ts_at {l : List (List UInt8)} {i : Nat} {t : List UInt8} (h : l[i]? = some t) : (ts l)[i]? = some (.string (B t)) := by simp [ts, h]

/-- A slice that owns these texts is a slice of them. -/
theorem strs_of_own {w : World} {base : Nat} {v : Value} {l : List (List UInt8)} (h : w.ownsRow base 9 1 v l.length (ts l)) (hl : ∀ t ∈ l, t.length ≤ 1000000) :
    ∃ A cap, v = .slice A l.length cap ∧ Strs w A cap l := by
  have h' := h
  rcases h'.2 with ⟨rfl, hn⟩ | ⟨g, cap, cur, rfl, _, hg, hnc, _, hcs, htake⟩
  · have : l = [] := List.eq_nil_of_length_eq_zero hn
    subst this
    exact ⟨none, 0, rfl, Nat.le_refl _, fun i t ht => by simp at ht⟩
  · refine ⟨_, _, rfl, hnc, fun i t ht => ⟨?_, g, 0, rfl, ?_⟩⟩
    · have := hl t (List.mem_of_getElem? ht); unfold maxLen; omega
    · have := World.ownsRow.cells h (g := g) rfl i _ (ts_at ht)
      rwa [Addr.add_lit] at this

theorem all_any (s : List UInt8) (hs : s.length ≤ 1000000) (w : World) (ht : Tab w) :
    Calls Tryz.prog 65 #[.string (B s)] w fun e w' => ∃ A cap, e = .returned (.tuple #[.slice A (allV s).length cap, .int .i64 (took (allV s) : Nat)]) ∧ Strs w' A cap (allV s) ∧ Old w w' := by
  refine ((callsIn_wide (n := 3)).1 (all_in 3 (by omega) s hs w ht)).mono ?_
  rintro e w' ⟨v, rfl, h, hb⟩
  obtain ⟨A, cap, rfl, hA⟩ := strs_of_own h (fun t ht => by have := allV_small s t ht; omega)
  exact ⟨A, cap, rfl, hA, hb⟩

theorem take_eq_succ {l m : List (List UInt8)} {k : Nat} (h1 : k < l.length) (h2 : k < m.length) : (l.take (k + 1) = m.take (k + 1)) ↔ (l.take k = m.take k ∧ l[k] = m[k]) := by
  rw [List.take_succ_eq_append_getElem h1, List.take_succ_eq_append_getElem h2]
  constructor
  · intro h
    have := List.append_inj h (by simp; omega)
    simpa using this
  · rintro ⟨h3, h4⟩
    rw [h3, h4]

end Go.Proofs.YtlmlopdakbbbjaaGreatDoor

namespace Go.Proofs.YtlmlopdakbbbjaaGreatDoor
open Go.RowKit Go.Shelf

/-- string([]byte{..}). -/
theorem str_new (w : World) (cs : Array Value) (l : List UInt8) (n cap : Nat) (hn : n = l.length) (hcs : cs = (bs l).toArray) :
    (convert 56 9 (.slice (some ⟨w.heap.size, 0, none⟩) n cap)).run Tryz.prog (w.alloc (.cells cs 5)) = .ok (.string (B l)) (w.alloc (.cells cs 5)) := by
  subst hn hcs
  rw [run_convert_bytes_string _ _ _ _ _ _ _ Tryz.underlying56 Tryz.underlying5 Tryz.underlying9]
  rw [run_bytesToString _ ⟨w.heap.size, 0, none⟩ l.length cap (l.map fun b => (b.toNat : Int)) ?_]
  · rw [fold_push]
    show Result.ok (Value.string ⟨#[] ++ l.toArray⟩) _ = _
    rw [Array.empty_append]
  · have h1 := run_loadCells_list (P := Tryz.prog) (w.alloc (.cells (bs l).toArray 5)) ⟨w.heap.size, 0, none⟩ (bs l) (fun j u hu => by
      have h1 := cell_of_row _ w.heap.size j _ _ _ (heap_alloc_new w (.cells (bs l).toArray 5))
      rw [Addr.add_lit, Nat.zero_add, h1]
      simpa using hu)
    rw [bs_length] at h1
    rw [h1]
    simp [bs]

set_option maxRecDepth 100000 in
set_option maxHeartbeats 1000000 in
theorem rfour_any (n : Nat) (hn : n < 4294967296) (w : World) :
    Calls Tryz.prog 28 #[.int .u32 n] w fun e w' => e = .returned (.string (B (low4 n))) ∧ Old w w' := by
  have hcv := str_new w #[.int .u8 ((n : Int) % 256), .int .u8 ((n : Int) / 256 % 256), .int .u8 ((n : Int) / 65536 % 256), .int .u8 ((n : Int) / 16777216)] (low4 n) 4 4 rfl (by simp [bs, low4]; omega)
  go_enter Tryz.func28, Tryz.ntmps28
  go_wp2
  go_ret
  exact ⟨rfl, old_alloc _ _⟩

set_option maxRecDepth 100000 in
set_option maxHeartbeats 1000000 in
theorem rput_no (l : List UInt8) (h : 65535 < l.length) (hl : l.length ≤ 1000000) (w : World) :
    Calls Tryz.prog 61 #[.string (B l)] w fun e w' => e = .returned (.tuple #[.string (B []), .int .i64 71]) ∧ w = w' := by
  go_enter Tryz.func61, Tryz.ntmps61
  go_wp2
  go_ret2
  exact ⟨rfl, rfl⟩

set_option maxRecDepth 100000 in
set_option maxHeartbeats 1000000 in
theorem rput_yes (l : List UInt8) (h : l.length ≤ 65535) (w : World) :
    Calls Tryz.prog 61 #[.string (B l)] w fun e w' => e = .returned (.tuple #[.string (B (put l)), .int .i64 0]) ∧ Old w w' := by
  have HP := Lib.hid (show put l = low2 l.length ++ low4 (sumL (low2 l.length ++ l)) ++ l from rfl)
  have ha : (low2 l.length).length = 2 := rfl
  have hcv := str_new w #[.int .u8 ((l.length : Int) % 256), .int .u8 ((l.length : Int) / 256)] (low2 l.length) 2 2 rfl (by simp [bs, low2]; omega)
  generalize low2 l.length = a at *
  have o1 := old_alloc w (.cells #[.int .u8 ((l.length : Int) % 256), .int .u8 ((l.length : Int) / 256)] 5)
  go_enter Tryz.func61, Tryz.ntmps61
  go_wp2_with fail
  rw [add_B]
  refine (rsum_any (a ++ l) (by simp; omega) _).mono ?_
  rintro e w2 ⟨rfl, rfl⟩
  have hs : sumL (a ++ l) < 4294967296 := more_lt _ _
  generalize sumL (a ++ l) = n at *
  go_wp2_with fail
  refine (rfour_any _ hs _).mono ?_
  rintro e w2 ⟨rfl, h2⟩
  have hb : (low4 n).length = 4 := rfl
  generalize low4 n = b at *
  go_wp2
  go_ret2
  refine ⟨?_, o1.tr h2⟩
  show Ending.returned (.tuple #[.string (B a ++ B b ++ B l), .int .i64 0]) = _
  rw [HP.out, add_B, add_B]

theorem low4_lowV (l : List UInt8) (h : l.length = 4) : low4 (lowV l) = l := by
  have h1 := lowV_lt l
  rw [h] at h1
  exact lowV_inj (by simpa [low4] using h.symm) (lowV_low4 _ h1)
theorem low4_eq_iff (n : Nat) (hn : n < 4294967296) (l : List UInt8) (h : l.length = 4) : (low4 n == l) = decide (n = lowV l) := by
  rw [Bool.eq_iff_iff]
  simp only [beq_iff_eq, decide_eq_true_eq]
  constructor
  · intro e; rw [← e, lowV_low4 n hn]
  · intro e; rw [e, low4_lowV l h]

theorem c_lowV_two (l : List UInt8) (h : 2 ≤ l.length) : lowV (l.take 2) = l[0].toNat + 256 * l[1].toNat := by
  match l, h with
  | a :: b :: r, _ => simp [lowV]

theorem first_two (l : List UInt8) (h : 1 < l.length) : wrap64 (wrap64 (((B l)[0]'(by simp [ByteArray.size]; omega)).toNat : Int) + wrap64 ((256 : Int) * wrap64 (((B l)[1]'(by simpa [ByteArray.size] using h)).toNat : Int))) = ((lowV (l.take 2) : Nat) : Int) := by
  rw [c_lowV_two l (by omega), show (B l)[0]'(by simp [ByteArray.size]; omega) = l[0] from rfl, show (B l)[1]'(by simpa [ByteArray.size] using h) = l[1] from rfl]
  have := l[0].toNat_lt
  have := l[1].toNat_lt
  unfold wrap64
  omega

set_option maxRecDepth 100000 in
set_option maxHeartbeats 2000000 in
theorem rget_any (l : List UInt8) (hl : l.length ≤ 1000000) (w : World) :
    Calls Tryz.prog 42 #[.string (B l)] w fun e w' => e = .returned (getR l) ∧ Old w w' := by
  by_cases h0 : l = []
  · subst h0
    go_enter Tryz.func42, Tryz.ntmps42
    go_wp2
    go_ret3
    exact ⟨rfl, Old.re _⟩
  have he : l.isEmpty = false := by simpa using h0
  have hpos : 0 < l.length := List.length_pos_iff.2 h0
  by_cases h6 : l.length < 6
  · have HV := Lib.hid (show getV l = ([], 0, 10) by rw [getV, if_neg h0, if_pos h6])
    go_enter Tryz.func42, Tryz.ntmps42
    go_wp2
    go_ret3
    refine ⟨?_, Old.re _⟩
    rw [getR, HV.out]
    rfl
  have hb1 : (1 : Int) < (l.length : Int) := by omega
  have hb2 : 1 < l.length := by omega
  have hn0 := first_two l hb2
  have l2 : (l.take 2).length = 2 := by simp; omega
  have hn : lowV (l.take 2) < 65536 := by have := lowV_lt (l.take 2); rw [l2] at this; omega
  have HV := Lib.hid (show getV l = if l.length - 6 < lowV (l.take 2) then ([], 0, 10)
    else if sumL (l.take 2 ++ (l.drop 6).take (lowV (l.take 2))) = lowV ((l.drop 2).take 4) then ((l.drop 6).take (lowV (l.take 2)), 6 + lowV (l.take 2), 0)
    else ([], 0, 20) by rw [getV, if_neg h0, if_neg h6])
  generalize lowV (l.take 2) = n at *
  have x2 : (B l).extract 0 2 = B (l.take 2) := ext_take _ _
  have x4 : (B l).extract 2 6 = B ((l.drop 2).take 4) := ext_B _ _ _
  have x6 : (B l).extract 6 (6 + n) = B ((l.drop 6).take n) := by rw [ext_B]; congr 2; omega
  have l4 : ((l.drop 2).take 4).length = 4 := by simp; omega
  by_cases hlt : l.length - 6 < n
  · rw [if_pos hlt] at HV
    go_enter Tryz.func42, Tryz.ntmps42
    go_wp2_with fail
    go_quiet (fail)
    rw [hn0]
    go_wp2
    go_ret3
    refine ⟨?_, (Old.re _).dn _⟩
    rw [getR, HV.out]
    rfl
  have l6 : ((l.drop 6).take n).length = n := by simp; omega
  rw [if_neg hlt] at HV
  have hxx : B (l.take 2) ++ B ((l.drop 6).take n) = B (l.take 2 ++ (l.drop 6).take n) := add_B _ _
  have C1 := Lib.hid (fun W => rsum_any (l.take 2 ++ (l.drop 6).take n) (by simp; omega) W)
  have hs : sumL (l.take 2 ++ (l.drop 6).take n) < 4294967296 := more_lt _ _
  generalize sumL (l.take 2 ++ (l.drop 6).take n) = sm at *
  have C2 := Lib.hid (fun W => rfour_any sm hs W)
  have HL := Lib.hid (low4_eq_iff sm hs _ l4)
  have hb : (low4 sm).length = 4 := rfl
  generalize low4 sm = b4 at *
  generalize l.take 2 = a at *
  generalize (l.drop 2).take 4 = d at *
  generalize (l.drop 6).take n = c at *
  go_enter Tryz.func42, Tryz.ntmps42
  go_wp2_with fail
  go_quiet (fail)
  rw [hn0]
  clear hn0
  go_wp2_with fail
  have i2 : (2 : Int) ≤ (l.length : Int) := by omega
  have i6 : (6 : Int) ≤ (l.length : Int) := by omega
  have i0 : (0 : Int) ≤ 6 + (n : Int) := by omega
  have i1 : (6 : Int) ≤ 6 + (n : Int) := by omega
  have i3 : (6 : Int) + (n : Int) ≤ (l.length : Int) := by omega
  have i4 : ((6 : Int) + (n : Int)).toNat = 6 + n := by omega
  have i5 : IntKind.i64.wrap ((6 : Int) + (n : Int)) = 6 + (n : Int) := by rw [IntKind.wrap_i64]; omega
  have i7 : ¬ 9223372036854775807 < 2 + n := by omega
  have i8 : (9223372036854775807 < 2 + n) = False := by simpa using i7
  have oS : Old w (w.drewN nq) := (Old.re _).dn _
  go_region_held3 (fun W => Old w W) (first | exact Old.tr (by assumption) (by assumption) | exact Old.dr (by assumption) | assumption | exact oS | exact oS.dr)
    (first
      | (go_at_call 72; with_reducible refine (C1.out _).mono ?_; rintro r w5 ⟨rfl, rfl⟩)
      | (go_at_call 28; with_reducible refine (C2.out _).mono ?_; rintro r w6 ⟨rfl, h6b⟩))
  have f6 : Old w w6 := by assumption
  clear i0 i1 i2 i3 i4 i5 i6 i7 i8 h6b oS hxx x2 x4 C1 C2
  by_cases hst : sm = lowV d
  · rw [if_pos hst] at HV
    have hbe : (b4 == d) = true := by rw [HL.out]; simpa using hst
    clear HL hst
    rw [hbe, Bool.not_true]
    go_wp2
    go_ret3
    refine ⟨?_, f6⟩
    rw [getR, HV.out]
    show Ending.returned (.tuple #[.string ((B l).extract 6 (6 + n)), .int .i64 (6 + (n : Int)), .int .i64 0]) = Ending.returned (.tuple #[.string (B c), .int .i64 ((6 + n : Nat) : Int), .int .i64 ((0 : Nat) : Int)])
    rw [Int.natCast_add, x6]
    rfl
  · rw [if_neg hst] at HV
    have hbe : (b4 == d) = false := by rw [HL.out]; simpa using hst
    clear HL hst
    rw [hbe, Bool.not_false]
    go_wp2
    go_ret3
    refine ⟨?_, f6⟩
    rw [getR, HV.out]
    rfl

theorem ownsRow_old {w W : World} {base : Nat} {e : TypeId} {v : Value} {n : Nat} {xs : List Value} (h : w.ownsRow base e 1 v n xs) (hb : Old w W) : W.ownsRow base e 1 v n xs := by
  refine World.ownsRow.kept (row := none) h ⟨hb.os, hb.tape, hb.output, hb.size, fun i hi _ => hb.block i hi⟩ ?_
  cases hv : v.ownBlock
  · exact .inl rfl
  · exact .inr (by simp)

/-- The texts of an input from a place on. -/
theorem drop_drop' (l : List UInt8) (a b : Nat) : (l.drop a).drop b = l.drop (a + b) := by rw [List.drop_drop]

set_option maxRecDepth 10000 in
set_option maxHeartbeats 2000000 in
theorem rall_any (s : List UInt8) (hs : s.length ≤ 1000000) (w : World) :
    Calls Tryz.prog 43 #[.string (B s)] w fun e w' => ∃ A cap, e = .returned (.tuple #[.slice A (allV s).length cap, .int .i64 (took (allV s) : Nat)]) ∧ Strs w' A cap (allV s) ∧ Old w w' := by
  obtain ⟨i0, hi, hz0, hz1, hz2⟩ := info_parts Tryz.infoStr
  go_enter Tryz.func43, Tryz.ntmps43
  go_wp2_with fail
  go_loopw [4, 5] (fun v i wr => ∃ pre : List (List UInt8), i = .int .i64 (took pre : Nat) ∧ took pre ≤ s.length ∧ wr.ownsRow w.heap.size 9 1 v pre.length (ts pre) ∧ Hid (allV s = pre ++ allV (s.drop (took pre))) ∧ pre.length ≤ took pre ∧ Old w wr) (fun _ i _ => s.length - (intOf i).toNat)
  case atStart => exact ⟨[], rfl, Nat.zero_le _, World.ownsRow_made w _ 0 (Nat.le_refl _) (Nat.zero_le _) rfl, Lib.hid rfl, Nat.zero_le _, old_alloc _ _⟩
  case round =>
    obtain ⟨pre, rfl, hle, hrow, HA, hpl, hw⟩ := hrel
    have xd : (B s).extract (took pre) s.length = B (s.drop (took pre)) := ext_drop _ _ _ (Nat.le_refl _)
    have ld : (s.drop (took pre)).length = s.length - took pre := by simp
    have HT := Lib.hid (fun t => took_snoc pre t)
    by_cases hg : (getV (s.drop (took pre))).2.2 = 0
    · have hv := getV_ok hg
      have HR := Lib.hid (getR_yes hg)
      have HN := Lib.hid (allV_yes hg)
      have HD := Lib.hid (fun b => drop_drop' s (took pre) b)
      generalize (getV (s.drop (took pre))).1 = t at *
      generalize htp : took pre = p at *
      generalize s.drop p = r at *
      go_wp2_with fail
      refine (rget_any r (by omega) _).mono ?_
      rintro e w1 ⟨rfl, h1⟩
      rw [HR.out]
      have hrow1 : w1.ownsRow w.heap.size 9 1 _ pre.length (ts pre) := ownsRow_old hrow h1
      have hw1 := hw.tr h1
      clear hrow hw
      go_wp2_with (at_builtin; refine wpList_append_own _ rfl (.tmp 22) (.tmp 24) 45 rfl w.heap.size 9 i0 (.string ByteArray.empty) 1 16 Tryz.underlying45 hi hz0 hz1 hz2 rfl (by decide) _ _ _ rfl (hrow1.alloc _) ⟨w1.heap.size, 0, none⟩ 1 1 [.string (B t)] rfl rfl (cell_one_new _ _ _) (by simp [Value.oneCell']) (by unfold maxLen; omega) (by omega) (by have := hw1.size; simp; omega) ?_; intro v' w2 hown' hgrow _)
      go_roundw
      case rel =>
        have e1 := HT.out t
        refine ⟨pre ++ [t], ?_, by omega, ?_, Lib.hid ?_, by rw [e1, List.length_append]; simp; omega, ?_⟩
        · rw [e1]; congr 1
        · simpa [ts] using hown'
        · rw [HA.out, HN.out, e1, HD.out]; simp
        · exact (hw1.al _).grown hgrow (by have := hw1.size; simp; omega) (fun k hk => (World.ownsRow.lt hrow1 k hk).1)
      case measure => simp only [intOf]; omega
    · have hg2 : (((getV (s.drop (took pre))).2.2 : Nat) : Int) ≠ 0 := by omega
      have HR := Lib.hid (show getR (s.drop (took pre)) = .tuple #[.string (B (getV (s.drop (took pre))).1), .int .i64 ((getV (s.drop (took pre))).2.1 : Nat), .int .i64 ((getV (s.drop (took pre))).2.2 : Nat)] from rfl)
      have HN := Lib.hid (allV_no hg)
      have HE := Lib.hid (show allV s = pre by rw [HA.out, HN.out, List.append_nil])
      generalize (((getV (s.drop (took pre))).2.2 : Nat) : Int) = e1 at *
      have hg3 : (e1 != 0) = true := by simpa using hg2
      generalize getV (s.drop (took pre)) = gv at *
      generalize s.drop (took pre) = r at *
      go_wp2_with fail
      refine (rget_any r (by omega) _).mono ?_
      rintro e w1 ⟨rfl, h1⟩
      rw [HR.out]
      have hrow1 : w1.ownsRow w.heap.size 9 1 _ pre.length (ts pre) := ownsRow_old hrow h1
      go_wp2
      go_ret2
      rw [HE.out]
      obtain ⟨A, cap, rfl, hA⟩ := strs_of_own hrow1 (fun t ht => by rw [← HE.out] at ht; have := allV_small s t ht; omega)
      exact ⟨A, cap, rfl, hA, hw.tr h1⟩
end Go.Proofs.YtlmlopdakbbbjaaGreatDoor
