/-
  Texts in one: CNum CBase CText. Conditions: as each theorem writes them.
-/
import Derived.Test.YtilimfbjkgeciaaDoorVFind
import Derived.WalkKit
import Derived.WalkSpells
import Derived.WalkLawsBesides
import Derived.Lib.Hide
import Derived.Deep.RegionHeld3
import Derived.Deep.QuietTactic
import Derived.BigQuiet
import Derived.Deep.Light
import Derived.Lib.AppendStr
namespace Go.Proofs.YtilimfbjkgeciaaDoor
set_option maxRecDepth 100000

def poly : Nat := 3988292384
/-- One of a byte's eight steps. -/
def step (n : Nat) : Nat := (n / 2) ^^^ (if n % 2 = 1 then poly else 0)
def step4 (n : Nat) : Nat := step (step (step (step n)))
def step8 (n : Nat) : Nat := step4 (step4 n)
/-- What one byte makes of the word. -/
def c_upd (n : Nat) (b : UInt8) : Nat := step8 (n ^^^ b.toNat)
def run (n : Nat) (l : List UInt8) : Nat := l.foldl c_upd n
/-- The sum of a text, going on from a sum. -/
def more (sum : Nat) (l : List UInt8) : Nat := 4294967295 - run (4294967295 - sum) l
def sumL (l : List UInt8) : Nat := more 0 l

def tab : List Nat := [0, 498536548, 997073096, 651767980, 1994146192, 1802195444, 1303535960, 1342533948, 3988292384, 4027552580, 3604390888, 3412177804, 2607071920, 2262029012, 2685067896, 3183342108]

theorem xor_lt32 {a b : Nat} (ha : a < 4294967296) (hb : b < 4294967296) : a ^^^ b < 4294967296 := Nat.xor_lt_two_pow (n := 32) ha hb
theorem step_lt {n : Nat} (h : n < 4294967296) : step n < 4294967296 := by
  unfold step
  refine xor_lt32 (by omega) ?_
  split <;> decide
theorem step4_lt {n : Nat} (h : n < 4294967296) : step4 n < 4294967296 := step_lt (step_lt (step_lt (step_lt h)))
theorem step8_lt {n : Nat} (h : n < 4294967296) : step8 n < 4294967296 := step4_lt (step4_lt h)
theorem upd_lt {n : Nat} (h : n < 4294967296) (b : UInt8) : c_upd n b < 4294967296 := by
  refine step8_lt (xor_lt32 h ?_)
  have := b.toNat_lt
  omega
theorem run_lt {n : Nat} (h : n < 4294967296) (l : List UInt8) : run n l < 4294967296 := by
  unfold run
  induction l generalizing n with
  | nil => exact h
  | cons b l ih => exact ih (upd_lt h b)
theorem more_lt (s : Nat) (l : List UInt8) : more s l < 4294967296 := by unfold more; omega
theorem run_append (n : Nat) (l m : List UInt8) : run n (l ++ m) = run (run n l) m := by simp [run]
theorem run_snoc (n : Nat) (l : List UInt8) (b : UInt8) : run n (l ++ [b]) = c_upd (run n l) b := by simp [run]
theorem more_append (s : Nat) (l m : List UInt8) : more s (l ++ m) = more (more s l) m := by
  unfold more
  rw [run_append]
  have h := run_lt (n := 4294967295 - s) (by omega) l
  rw [show 4294967295 - (4294967295 - run (4294967295 - s) l) = run (4294967295 - s) l by omega]
theorem more_nil (s : Nat) (h : s < 4294967296) : more s [] = s := by
  unfold more run
  simp only [List.foldl_nil]
  omega

theorem step_xor (a b : Nat) : step (a ^^^ b) = step a ^^^ step b := by
  unfold step
  rw [Nat.xor_div_two]
  by_cases h : a % 2 = 1 <;> by_cases k : b % 2 = 1
  · rw [if_neg (by rw [Nat.xor_mod_two_eq_one]; simp [h, k]), if_pos h, if_pos k, Nat.xor_zero, Nat.xor_assoc (a / 2), ← Nat.xor_assoc poly, Nat.xor_comm poly, Nat.xor_assoc (b / 2), Nat.xor_self, Nat.xor_zero]
  · rw [if_pos (by rw [Nat.xor_mod_two_eq_one]; simp [h, k]), if_pos h, if_neg k, Nat.xor_zero, Nat.xor_assoc, Nat.xor_assoc, Nat.xor_comm poly]
  · rw [if_pos (by rw [Nat.xor_mod_two_eq_one]; simp [h, k]), if_neg h, if_pos k, Nat.xor_zero, Nat.xor_assoc]
  · rw [if_neg (by rw [Nat.xor_mod_two_eq_one]; simp [h, k]), if_neg h, if_neg k, Nat.xor_zero, Nat.xor_zero, Nat.xor_zero]
theorem step_double (m : Nat) : step (2 * m) = m := by
  unfold step
  rw [if_neg (by omega), Nat.xor_zero]
  omega
theorem step4_xor (a b : Nat) : step4 (a ^^^ b) = step4 a ^^^ step4 b := by unfold step4; simp only [step_xor]
theorem step4_times (m : Nat) : step4 (16 * m) = m := by
  unfold step4
  rw [show 16 * m = 2 * (2 * (2 * (2 * m))) by omega]
  simp only [step_double]
theorem step4_tab : ∀ r, r < 16 → step4 r = tab.getD r 0 := by decide
theorem parts16 (n : Nat) : n = (16 * (n / 16)) ^^^ (n % 16) := by
  have h := Nat.two_pow_add_eq_or_of_lt (i := 4) (b := n % 16) (by omega) (n / 16)
  have h2 : (2 ^ 4 * (n / 16)) ^^^ (n % 16) = 2 ^ 4 * (n / 16) + n % 16 := by
    rw [h]
    apply Nat.eq_of_testBit_eq
    intro i
    simp only [Nat.testBit_xor, Nat.testBit_or]
    rw [Nat.testBit_two_pow_mul]
    by_cases hi : 4 ≤ i
    · have : (n % 16).testBit i = false := Nat.testBit_lt_two_pow (Nat.lt_of_lt_of_le (by omega : n % 16 < 2 ^ 4) (Nat.pow_le_pow_right (by omega) hi))
      simp [this]
    · simp [hi]
  simp only [Nat.reducePow] at h2
  omega
/-- Four steps by the table. -/
theorem four_tab (n : Nat) : (n / 16) ^^^ tab.getD (n % 16) 0 = step4 n := by
  conv => rhs; rw [parts16 n]
  rw [step4_xor, step4_times, step4_tab _ (Nat.mod_lt _ (by omega))]

theorem xor_cancel {a b c : Nat} (h : a ^^^ c = b ^^^ c) : a = b := by
  have := congrArg (· ^^^ c) h
  simpa [Nat.xor_assoc] using this
theorem step_inj {a b : Nat} (ha : a < 4294967296) (hb : b < 4294967296) (h : step a = step b) : a = b := by
  unfold step at h
  rcases Nat.mod_two_eq_zero_or_one a with h1 | h1 <;> rcases Nat.mod_two_eq_zero_or_one b with h2 | h2 <;> simp only [h1, h2] at h <;> simp at h
  · omega
  · exfalso
    have e : poly = (b / 2) ^^^ (a / 2) := by
      rw [h, ← Nat.xor_assoc, Nat.xor_self, Nat.zero_xor]
    have : (b / 2) ^^^ (a / 2) < 2 ^ 31 := Nat.xor_lt_two_pow (by omega) (by omega)
    rw [← e] at this
    exact absurd this (by decide)
  · exfalso
    have e : poly = (a / 2) ^^^ (b / 2) := by
      rw [← h, ← Nat.xor_assoc, Nat.xor_self, Nat.zero_xor]
    have : (a / 2) ^^^ (b / 2) < 2 ^ 31 := Nat.xor_lt_two_pow (by omega) (by omega)
    rw [← e] at this
    exact absurd this (by decide)
  · have := xor_cancel h
    omega
theorem step4_inj {a b : Nat} (ha : a < 4294967296) (hb : b < 4294967296) (h : step4 a = step4 b) : a = b :=
  step_inj ha hb (step_inj (step_lt ha) (step_lt hb) (step_inj (step_lt (step_lt ha)) (step_lt (step_lt hb)) (step_inj (step_lt (step_lt (step_lt ha))) (step_lt (step_lt (step_lt hb))) h)))
theorem step8_inj {a b : Nat} (ha : a < 4294967296) (hb : b < 4294967296) (h : step8 a = step8 b) : a = b := step4_inj ha hb (step4_inj (step4_lt ha) (step4_lt hb) h)
theorem byte_lt32 (b : UInt8) : b.toNat < 4294967296 := by have := b.toNat_lt; omega
theorem upd_inj {a b : Nat} (ha : a < 4294967296) (hb : b < 4294967296) (c : UInt8) (h : c_upd a c = c_upd b c) : a = b :=
  xor_cancel (step8_inj (xor_lt32 ha (byte_lt32 c)) (xor_lt32 hb (byte_lt32 c)) h)
theorem upd_byte {a : Nat} (ha : a < 4294967296) {c d : UInt8} (h : c_upd a c = c_upd a d) : c = d := by
  have := step8_inj (xor_lt32 ha (byte_lt32 c)) (xor_lt32 ha (byte_lt32 d)) h
  rw [Nat.xor_comm a, Nat.xor_comm a] at this
  exact UInt8.toNat_inj.1 (xor_cancel this)
theorem run_inj {a b : Nat} (ha : a < 4294967296) (hb : b < 4294967296) (l : List UInt8) (h : run a l = run b l) : a = b := by
  induction l generalizing a b with
  | nil => exact h
  | cons c l ih => exact upd_inj ha hb c (ih (upd_lt ha c) (upd_lt hb c) h)
/-- Texts of one byte's difference have unlike sums. -/
theorem run_apart {a : Nat} (ha : a < 4294967296) (p q : List UInt8) {c d : UInt8} (h : c ≠ d) : run a (p ++ c :: q) ≠ run a (p ++ d :: q) := by
  intro e
  rw [run_append, run_append] at e
  have hp := run_lt ha p
  have := run_inj (upd_lt hp c) (upd_lt hp d) q e
  exact h (upd_byte hp this)
theorem more_apart (s : Nat) (p q : List UInt8) {c d : UInt8} (h : c ≠ d) : more s (p ++ c :: q) ≠ more s (p ++ d :: q) := by
  have h1 := run_apart (a := 4294967295 - s) (by omega) p q h
  have h2 := run_lt (n := 4294967295 - s) (by omega) (p ++ c :: q)
  have h3 := run_lt (n := 4294967295 - s) (by omega) (p ++ d :: q)
  unfold more
  omega
end Go.Proofs.YtilimfbjkgeciaaDoor

namespace Go.Proofs.YtilimfbjkgeciaaDoor
set_option maxRecDepth 100000
open Go.RowKit

theorem ret_str {a b : ByteArray} (h : a = b) : Ending.returned (.string a) = .returned (.string b) := by rw [h]

/-- The table lies where the program's text lays it. -/
def Tab (w : World) : Prop := 0 < w.heap.size ∧ ∀ i, i < 16 → w.cell? ⟨0, i, none⟩ = some (.int .u32 (tab.getD i 0 : Nat))
theorem Tab.below {w w' : World} {b : Nat} (h : Tab w) (hb : Below b w w') (h0 : 0 < b) : Tab w' := by
  refine ⟨?_, fun i hi => ?_⟩
  · have := hb.size; have := h.1; omega
  · rw [hb.cell (p := ⟨0, i, none⟩) h0]; exact h.2 i hi
theorem Tab.old {w w' : World} (h : Tab w) (hb : Old w w') : Tab w' := h.below hb h.1
theorem Tab.al {w : World} (h : Tab w) (o : Obj) : Tab (w.alloc o) := h.old (old_alloc _ _)

theorem wrap_u32_id (x : Nat) (h : x < 4294967296) : IntKind.u32.wrap (x : Int) = (x : Int) := by
  rw [IntKind.wrap_u32]; omega
theorem xor_u32 (a b : Nat) (ha : a < 4294967296) (hb : b < 4294967296) : bits BinOp.xor IntKind.u32 (a : Int) (b : Int) = ((a ^^^ b : Nat) : Int) := by
  show IntKind.u32.wrap ((BitVec.ofInt 32 (a : Int) ^^^ BitVec.ofInt 32 (b : Int)).toNat : Int) = _
  rw [BitVec.toNat_xor, BitVec.ofInt_natCast, BitVec.ofInt_natCast, BitVec.toNat_ofNat, BitVec.toNat_ofNat, Nat.mod_eq_of_lt (by omega), Nat.mod_eq_of_lt (by omega)]
  exact wrap_u32_id _ (xor_lt32 ha hb)
theorem or_u32 (a b : Nat) (ha : a < 4294967296) (hb : b < 4294967296) : bits BinOp.or IntKind.u32 (a : Int) (b : Int) = ((a ||| b : Nat) : Int) := by
  show IntKind.u32.wrap ((BitVec.ofInt 32 (a : Int) ||| BitVec.ofInt 32 (b : Int)).toNat : Int) = _
  rw [BitVec.toNat_or, BitVec.ofInt_natCast, BitVec.ofInt_natCast, BitVec.toNat_ofNat, BitVec.toNat_ofNat, Nat.mod_eq_of_lt (by omega), Nat.mod_eq_of_lt (by omega)]
  exact wrap_u32_id _ (by have : a ||| b < 2 ^ 32 := Nat.or_lt_two_pow (by omega) (by omega); omega)
theorem tab_lt (i : Nat) (h : i < 16) : tab.getD i 0 < 4294967296 := by
  rw [← step4_tab i h]; exact step4_lt (by omega)

set_option maxHeartbeats 400000 in
theorem four_any (n : Nat) (hn : n < 4294967296) (w : World) (h : Tab w) :
    Calls Tryd.prog 94 #[.int .u32 n] w fun e w' => e = .returned (.int .u32 (step4 n : Nat)) ∧ w = w' := by
  have hm : n % 16 < 16 := Nat.mod_lt _ (by omega)
  have hc := h.2 (n % 16) hm
  go_enter Tryd.func94, Tryd.ntmps94
  go_wp2
  go_ret
  refine ⟨ret_int ?_, rfl⟩
  rw [show ((n : Int) / 16) = ((n / 16 : Nat) : Int) by simp, xor_u32 _ _ (by omega) (by have := tab_lt _ hm; rwa [List.getD_eq_getElem?_getD] at this)]
  congr 1
  have := four_tab n
  rwa [List.getD_eq_getElem?_getD] at this

theorem not_u32 (n : Nat) (h : n < 4294967296) : bits BinOp.xor IntKind.u32 IntKind.u32.max (n : Int) = ((4294967295 - n : Nat) : Int) := by
  have hm : IntKind.u32.max = ((4294967295 : Nat) : Int) := by decide
  rw [hm, xor_u32 _ _ (by omega) h]
  congr 1
  have h3 : (BitVec.allOnes 32 ^^^ BitVec.ofNat 32 n).toNat = (~~~ BitVec.ofNat 32 n).toNat := by rw [BitVec.allOnes_xor]
  rw [BitVec.toNat_xor, BitVec.toNat_not, BitVec.toNat_ofNat, BitVec.toNat_allOnes, Nat.mod_eq_of_lt (by omega)] at h3
  simpa using h3

theorem xor_byte (l : List UInt8) (k : Nat) (hlt : k < l.length) (m : Nat) (hr : m < 4294967296) :
    bits BinOp.xor IntKind.u32 (m : Int) ((((B l)[k]'(by simpa [ByteArray.size] using hlt)).toNat : Int) % 4294967296) = ((m ^^^ l[k].toNat : Nat) : Int) := by
  rw [show (B l)[k]'(by simpa [ByteArray.size] using hlt) = l[k] from rfl]
  have := byte_lt32 l[k]
  rw [Int.emod_eq_of_lt (by omega) (by omega), xor_u32 _ _ hr (byte_lt32 _)]

set_option maxHeartbeats 400000 in
theorem c_more_any (s : Nat) (hs : s < 4294967296) (l : List UInt8) (hl : l.length ≤ 1000000) (w : World) (h : Tab w) :
    Calls Tryd.prog 91 #[.int .u32 s, .string (B l)] w fun e w' => e = .returned (.int .u32 (more s l : Nat)) ∧ w = w' := by
  have hn := not_u32 s hs
  have hsg : IntKind.u32.signed = false := rfl
  go_enter Tryd.func91, Tryd.ntmps91
  go_wp2_with fail
  go_loop [5, 11] (fun n i => ∃ k : Nat, k ≤ l.length ∧ i = .int .i64 k ∧ n = .int .u32 (run (4294967295 - s) (l.take k) : Nat)) (fun _ i => l.length - (intOf i).toNat)
  case atStart => exact ⟨0, Nat.zero_le _, rfl, rfl⟩
  case round =>
    obtain ⟨k, hk, rfl, rfl⟩ := hrel
    have hr := run_lt (n := 4294967295 - s) (by omega) (l.take k)
    by_cases hlt : k < l.length
    · have hsn : run (4294967295 - s) (l.take (k + 1)) = c_upd (run (4294967295 - s) (l.take k)) l[k] := by rw [List.take_succ_eq_append_getElem hlt, run_snoc]
      have HS := Lib.hid hsn
      clear hsn
      generalize run (4294967295 - s) (l.take k) = m at *
      have hx := xor_byte l k hlt m hr
      go_wp2_with fail
      refine (four_any _ (xor_lt32 hr (byte_lt32 _)) _ h).mono ?_
      rintro e w1 ⟨rfl, rfl⟩
      go_wp2_with fail
      refine (four_any _ (step4_lt (xor_lt32 hr (byte_lt32 _))) _ h).mono ?_
      rintro e w1 ⟨rfl, rfl⟩
      go_wp2
      go_round
      case rel =>
        refine ⟨k + 1, by omega, by go_num, ?_⟩
        rw [HS.out]
        rfl
      case measure => simp [intOf]; omega
    · have HS := Lib.hid (show more s l = 4294967295 - run (4294967295 - s) (l.take k) by rw [List.take_of_length_le (by omega)]; rfl)
      generalize run (4294967295 - s) (l.take k) = m at *
      have hx := not_u32 m hr
      go_wp2
      go_ret
      refine ⟨ret_int ?_, rfl⟩
      rw [HS.out]

set_option maxHeartbeats 400000 in
theorem sum_any (l : List UInt8) (hl : l.length ≤ 1000000) (w : World) (h : Tab w) :
    Calls Tryd.prog 92 #[.string (B l)] w fun e w' => e = .returned (.int .u32 (sumL l : Nat)) ∧ w = w' := by
  go_enter Tryd.func92, Tryd.ntmps92
  go_wp2_with fail
  refine (c_more_any 0 (by omega) l hl _ h).mono ?_
  rintro e w1 ⟨rfl, rfl⟩
  go_wp2
  go_ret
  exact ⟨rfl, rfl⟩

set_option maxHeartbeats 400000 in
theorem sumOf_any (a b : List UInt8) (ha : a.length ≤ 1000000) (hb : b.length ≤ 1000000) (w : World) (h : Tab w) :
    Calls Tryd.prog 87 #[.string (B a), .string (B b)] w fun e w' => e = .returned (.int .u32 (sumL (a ++ b) : Nat)) ∧ w = w' := by
  go_enter Tryd.func87, Tryd.ntmps87
  go_wp2_with fail
  refine (sum_any a ha _ h).mono ?_
  rintro e w1 ⟨rfl, rfl⟩
  have HS := Lib.hid (more_append 0 a b)
  go_wp2_with fail
  refine (c_more_any _ (more_lt _ _) b hb _ h).mono ?_
  rintro e w1 ⟨rfl, rfl⟩
  go_wp2
  go_ret
  refine ⟨ret_int ?_, rfl⟩
  rw [show sumL (a ++ b) = _ from HS.out]

def stepN : Nat → Nat → Nat
  | 0, n => n
  | j + 1, n => step (stepN j n)
theorem stepN_lt (j : Nat) {n : Nat} (h : n < 4294967296) : stepN j n < 4294967296 := by
  induction j with
  | zero => exact h
  | succ j ih => exact step_lt ih

set_option maxHeartbeats 1000000 in
theorem rmore_any (s : Nat) (hs : s < 4294967296) (l : List UInt8) (hl : l.length ≤ 1000000) (w : World) :
    Calls Tryd.prog 88 #[.int .u32 s, .string (B l)] w fun e w' => e = .returned (.int .u32 (more s l : Nat)) ∧ w = w' := by
  have hn : IntKind.u32.wrap (4294967295 - (s : Int)) = ((4294967295 - s : Nat) : Int) := by rw [IntKind.wrap_u32]; omega
  go_enter Tryd.func88, Tryd.ntmps88
  go_wp2_with fail
  go_loop [5, 6] (fun n i => ∃ k : Nat, k ≤ l.length ∧ i = .int .i64 k ∧ n = .int .u32 (run (4294967295 - s) (l.take k) : Nat)) (fun _ i => l.length - (intOf i).toNat)
  case atStart => exact ⟨0, Nat.zero_le _, rfl, congrArg _ (by first | exact hn | rfl)⟩
  case round =>
    obtain ⟨k, hk, rfl, rfl⟩ := hrel
    have hr := run_lt (n := 4294967295 - s) (by omega) (l.take k)
    by_cases hlt : k < l.length
    · have hsn : run (4294967295 - s) (l.take (k + 1)) = c_upd (run (4294967295 - s) (l.take k)) l[k] := by rw [List.take_succ_eq_append_getElem hlt, run_snoc]
      have HS := Lib.hid hsn
      clear hsn
      generalize run (4294967295 - s) (l.take k) = m at *
      have hx := xor_byte l k hlt m hr
      go_wp2_with fail
      have hm : m ^^^ l[k].toNat < 4294967296 := xor_lt32 hr (byte_lt32 _)
      have HM := Lib.hid (show c_upd m l[k] = stepN 8 (m ^^^ l[k].toNat) from rfl)
      generalize m ^^^ l[k].toNat = x at *
      go_loop [5, 7] (fun n i => ∃ j : Nat, j ≤ 8 ∧ i = .int .i64 j ∧ n = .int .u32 (stepN j x : Nat)) (fun _ i => 8 - (intOf i).toNat)
      case atStart => exact ⟨0, Nat.zero_le _, rfl, rfl⟩
      case round =>
        obtain ⟨j, hj, rfl, rfl⟩ := hrel
        have hq := stepN_lt j hm
        by_cases hjl : j < 8
        · have HJ := Lib.hid (show stepN (j + 1) x = step (stepN j x) from rfl)
          generalize stepN j x = y at *
          by_cases hp : y % 2 = 1
          · have hp2 : ((y : Int) % 2 == 1) = true := by rw [beq_iff_eq]; omega
            have hx2 : bits BinOp.xor IntKind.u32 ((y : Int) / 2) 3988292384 = ((step y : Nat) : Int) := by
              unfold step
              rw [if_pos hp, show ((y : Int) / 2) = ((y / 2 : Nat) : Int) by simp]
              exact xor_u32 _ poly (by omega) (by decide)
            go_wp2
            go_round
            case rel => exact ⟨j + 1, by omega, by go_num, by rw [HJ.out]⟩
            case measure => simp [intOf]; omega
          · have hp2 : ((y : Int) % 2 == 1) = false := by rw [beq_eq_false_iff_ne]; omega
            go_wp2
            go_round
            case rel =>
              refine ⟨j + 1, by omega, by go_num, ?_⟩
              rw [HJ.out]
              unfold step
              rw [if_neg hp, Nat.xor_zero]
              simp
            case measure => simp [intOf]; omega
        · obtain rfl : j = 8 := by omega
          rw [← HM.out] at hq ⊢
          rw [← HS.out] at hq ⊢
          go_wp2
          go_round
          case rel => exact ⟨k + 1, by omega, by go_num, rfl⟩
          case measure => simp [intOf]; omega
    · have HS := Lib.hid (show more s l = 4294967295 - run (4294967295 - s) (l.take k) by rw [List.take_of_length_le (by omega)]; rfl)
      generalize run (4294967295 - s) (l.take k) = m at *
      go_wp2
      go_ret
      refine ⟨ret_int ?_, rfl⟩
      rw [HS.out]
      omega

set_option maxHeartbeats 400000 in
theorem rsum_any (l : List UInt8) (hl : l.length ≤ 1000000) (w : World) :
    Calls Tryd.prog 79 #[.string (B l)] w fun e w' => e = .returned (.int .u32 (sumL l : Nat)) ∧ w = w' := by
  go_enter Tryd.func79, Tryd.ntmps79
  go_wp2_with fail
  refine (rmore_any 0 (by omega) l hl _).mono ?_
  rintro e w1 ⟨rfl, rfl⟩
  go_wp2
  go_ret
  exact ⟨rfl, rfl⟩
end Go.Proofs.YtilimfbjkgeciaaDoor

namespace Go.Proofs.YtilimfbjkgeciaaDoor
set_option maxRecDepth 100000
open Go.RowKit

/-- Bytes as cells. -/
def bs (l : List UInt8) : List Value := l.map fun b => .int .u8 (b.toNat : Int)
theorem bs_length (l : List UInt8) : (bs l).length = l.length := by simp [bs]
theorem bs_append (l m : List UInt8) : bs (l ++ m) = bs l ++ bs m := by simp [bs]
theorem bs_one (l : List UInt8) : ∀ u ∈ bs l, u.oneCell' = true := by
  intro u hu
  obtain ⟨_, _, rfl⟩ := List.mem_map.1 hu
  rfl

/-- v is a slice of the call's own, from block base on, that holds just the bytes l. -/
def Own (w : World) (base : Nat) (v : Value) (l : List UInt8) : Prop := w.ownsRow base 5 1 v l.length (bs l)
theorem Tryd.info5 : (Tryd.prog.info? 5).map (fun i => (i.zero, i.size, i.bytes)) = some (some (.int .u8 0), 1, 1) := by kernel_rfl
theorem Own.nil (w : World) (base : Nat) : Own w base (.slice none 0 0) [] := World.ownsRow_nil _ _ _ _
theorem Own.alloc {w : World} {base : Nat} {v : Value} {l : List UInt8} (h : Own w base v l) (o : Obj) : Own (w.alloc o) base v l := World.ownsRow.alloc h o
theorem Own.drew {w : World} {base : Nat} {v : Value} {l : List UInt8} (h : Own w base v l) : Own w.drew base v l := h

/-- append(v, x..): x a slice of new bytes. -/
theorem wp_app {ops : Array Oper} {rest : List Oper} {o : Oper} {a : Act} {Q : Exit → Act → World → Prop} {w : World} (hgd : o.guard = none) (s x : Operand)
    (ho : o.op = .call { callee := .builtin .append, args := #[s, x], argTypes := #[54, 54] })
    {base : Nat} {v : Value} {l : List UInt8} (hs : a.eval s = v) (hown : Own w base v l) (news : List UInt8) (g m c : Nat) (hx : a.eval x = .slice (some ⟨g, 0, none⟩) m c) (hm : m = news.length)
    (hnews : w.heap[g]? = some (.cells (bs news).toArray 5 (0, 0))) (hlen : l.length + news.length ≤ 100000) (hbase : base ≤ w.heap.size)
    (h : ∀ v' w', Own w' base v' (l ++ news) → Below base w w' → base ≤ w'.heap.size → wpList Tryd.prog ops Q rest (a.put o.dst v') w') : wpList Tryd.prog ops Q (o :: rest) a w := by
  obtain ⟨i0, hi, hz0, hz1, hz2⟩ := info_parts Tryd.info5
  subst hm
  refine wpList_append_own w hgd s x 54 ho base 5 i0 (.int .u8 0) 1 1 Tryd.underlying54 hi hz0 hz1 hz2 rfl (by decide) v l.length (bs l) hs hown ⟨g, 0, none⟩ news.length c (bs news) hx (by simp [bs_length]) ?_ (bs_one _) (by unfold maxLen; omega) (by omega) hbase ?_
  · intro j u hu
    have h1 := cell_of_row w g j _ _ _ hnews
    rw [Addr.add_lit, Nat.zero_add, h1]
    simpa using hu
  · intro v' w' h2 h3 _
    refine h v' w' ?_ ((Below.refl base w).grown h3 hbase (fun k hk => (World.ownsRow.lt hown k hk).1)) (Nat.le_trans hbase h3.size)
    unfold Own
    rw [bs_append, List.length_append]
    exact h2

theorem fold_push (l : List UInt8) : ∀ r : ByteArray, ((l.map fun b => (b.toNat : Int)).foldl (fun r n => r.push (UInt8.ofNat n.toNat)) r) = ⟨r.data ++ l.toArray⟩ := by
  induction l with
  | nil => intro r; simp
  | cons b l ih =>
    intro r
    simp only [List.map_cons, List.foldl_cons]
    rw [ih]
    simp [ByteArray.push]

/-- string(v). -/
theorem run_str {w : World} {base : Nat} {v : Value} {l : List UInt8} (h : Own w base v l) : (convert 54 9 v).run Tryd.prog w = .ok (.string (B l)) w := by
  rcases h.2 with ⟨rfl, hn⟩ | ⟨g, cap, cur, rfl, _, hg, hnc, _, hcs, htake⟩
  · have : l = [] := List.eq_nil_of_length_eq_zero hn
    subst this
    rw [run_convert_bytes_string w _ _ _ _ _ _ Tryd.underlying54 Tryd.underlying5 Tryd.underlying9]
    simp [Conv.bytesToString]
    rfl
  · rw [run_convert_bytes_string w _ _ _ _ _ _ Tryd.underlying54 Tryd.underlying5 Tryd.underlying9]
    rw [run_bytesToString w ⟨g, 0, none⟩ l.length cap (l.map fun b => (b.toNat : Int)) ?_]
    · rw [fold_push]
      show Result.ok (Value.string ⟨#[] ++ l.toArray⟩) w = _
      rw [Array.empty_append]
    · have h1 := run_loadCells_list (P := Tryd.prog) w ⟨g, 0, none⟩ (bs l) (fun j u hu => World.ownsRow.cells h (g := g) rfl j u hu)
      rw [bs_length] at h1
      rw [h1]
      simp [bs]

theorem new_row1 (w : World) (x : Int) (b : UInt8) (h : x = (b.toNat : Int)) : (w.alloc (.cells #[.int .u8 x] 5)).heap[w.heap.size]? = some (.cells (bs [b]).toArray 5 (0, 0)) := by
  subst h
  exact heap_alloc_new w _
theorem new_rowN (w : World) (x : Int) (m : Nat) (h : x = ((m % 256 : Nat) : Int)) : (w.alloc (.cells #[.int .u8 x] 5)).heap[w.heap.size]? = some (.cells (bs [UInt8.ofNat m]).toArray 5 (0, 0)) :=
  new_row1 w x _ (by rw [h]; simp)

def low2 (n : Nat) : List UInt8 := [UInt8.ofNat n, UInt8.ofNat (n / 256)]
def low4 (n : Nat) : List UInt8 := [UInt8.ofNat n, UInt8.ofNat (n / 256), UInt8.ofNat (n / 65536), UInt8.ofNat (n / 16777216)]

set_option maxHeartbeats 1000000 in
theorem low2_any (n : Nat) (w : World) :
    Calls Tryd.prog 89 #[.int .u32 n, .int .i64 2] w fun e w' => e = .returned (.string (B (low2 n))) ∧ Old w w' := by
  go_enter Tryd.func89, Tryd.ntmps89
  go_wp2_with fail
  refine wp_loop_rounds 3 ?_
  rw [rounds_succ]
  go_wp2_with (at_builtin; refine wp_app rfl _ _ rfl rfl ((Own.nil _ w.heap.size).alloc _) [UInt8.ofNat n] w.heap.size 1 1 rfl rfl (new_rowN _ _ _ (by omega)) (by simp) (by simp) ?_; intro v1 w1 ho1 hbl1 hb1)
  rw [rounds_succ]
  go_wp2_with (at_builtin; refine wp_app rfl _ _ rfl rfl (ho1.alloc _) [UInt8.ofNat (n / 256)] w1.heap.size 1 1 rfl rfl (new_rowN _ _ _ (by omega)) (by simp) (by simp; omega) ?_; intro v2 w2 ho2 hbl2 hb2)
  rw [rounds_succ]
  have hcv := run_str ho2
  go_wp2
  go_ret
  refine ⟨rfl, ?_⟩
  exact (((Below.refl _ _).alloc (Nat.le_refl _) _).trans hbl1 |>.alloc hb1 _).trans hbl2

set_option maxHeartbeats 1000000 in
theorem low4_any (n : Nat) (hn : n < 4294967296) (w : World) :
    Calls Tryd.prog 89 #[.int .u32 n, .int .i64 4] w fun e w' => e = .returned (.string (B (low4 n))) ∧ Old w w' := by
  go_enter Tryd.func89, Tryd.ntmps89
  go_wp2_with fail
  refine wp_loop_rounds 5 ?_
  rw [rounds_succ]
  go_wp2_with (at_builtin; refine wp_app rfl _ _ rfl rfl ((Own.nil _ w.heap.size).alloc _) [UInt8.ofNat n] w.heap.size 1 1 rfl rfl (new_rowN _ _ _ (by omega)) (by simp) (by simp) ?_; intro v1 w1 ho1 hbl1 hb1)
  rw [rounds_succ]
  go_wp2_with (at_builtin; refine wp_app rfl _ _ rfl rfl (ho1.alloc _) [UInt8.ofNat (n / 256)] w1.heap.size 1 1 rfl rfl (new_rowN _ _ _ (by omega)) (by simp) (by simp; omega) ?_; intro v2 w2 ho2 hbl2 hb2)
  rw [rounds_succ]
  go_wp2_with (at_builtin; refine wp_app rfl _ _ rfl rfl (ho2.alloc _) [UInt8.ofNat (n / 65536)] w2.heap.size 1 1 rfl rfl (new_rowN _ _ _ (by omega)) (by simp) (by simp; omega) ?_; intro v3 w3 ho3 hbl3 hb3)
  rw [rounds_succ]
  go_wp2_with (at_builtin; refine wp_app rfl _ _ rfl rfl (ho3.alloc _) [UInt8.ofNat (n / 16777216)] w3.heap.size 1 1 rfl rfl (new_rowN _ _ _ (by omega)) (by simp) (by simp; omega) ?_; intro v4 w4 ho4 hbl4 hb4)
  rw [rounds_succ]
  have hcv := run_str ho4
  go_wp2
  go_ret
  refine ⟨rfl, ?_⟩
  exact (((((Below.refl _ _).alloc (Nat.le_refl _) _).trans hbl1 |>.alloc hb1 _).trans hbl2 |>.alloc hb2 _).trans hbl3 |>.alloc hb3 _).trans hbl4

/-- The number whose bytes these are, the lowest one first. -/
def lowV (l : List UInt8) : Nat := l.foldr (fun b n => b.toNat + 256 * n) 0
theorem lowV_lt (l : List UInt8) : lowV l < 256 ^ l.length := by
  induction l with
  | nil => simp [lowV]
  | cons b l ih =>
    have hb := b.toNat_lt
    simp only [lowV, List.foldr_cons, List.length_cons, Nat.pow_succ] at *
    omega
theorem lowV_snoc (l : List UInt8) (b : UInt8) : lowV (l ++ [b]) = lowV l + 256 ^ l.length * b.toNat := by
  induction l with
  | nil => simp [lowV]
  | cons c l ih =>
    simp only [lowV, List.cons_append, List.foldr_cons, List.length_cons, Nat.pow_succ] at *
    rw [ih, Nat.mul_add, ← Nat.add_assoc]
    congr 1
    rw [Nat.mul_comm (256 ^ l.length) 256, Nat.mul_assoc]
theorem lowV_inj : ∀ {l m : List UInt8}, l.length = m.length → lowV l = lowV m → l = m
  | [], [], _, _ => rfl
  | b :: l, c :: m, hl, h => by
    have hb := b.toNat_lt
    have hc := c.toNat_lt
    simp only [lowV, List.foldr_cons] at h
    have h1 : b.toNat = c.toNat := by omega
    have h2 : lowV l = lowV m := by unfold lowV; omega
    rw [UInt8.toNat_inj.1 h1, lowV_inj (by simpa using hl) h2]
theorem lowV_low2 (n : Nat) (h : n < 65536) : lowV (low2 n) = n := by simp [lowV, low2]; omega
theorem lowV_low4 (n : Nat) (h : n < 4294967296) : lowV (low4 n) = n := by simp [lowV, low4]; omega

theorem pow8 (k : Nat) : (2 : Nat) ^ (8 * k) = 256 ^ k := by rw [Nat.pow_mul]
theorem or_low (a b k : Nat) (ha : a < 256 ^ k) (hb : b < 256) (hk : k < 4) :
    bits BinOp.or IntKind.u32 (a : Int) (((b : Int) % 4294967296 * 2 ^ (8 * k)) % 4294967296) = ((a + 256 ^ k * b : Nat) : Int) := by
  have h7 : 256 ^ k ≤ 256 ^ 3 := Nat.pow_le_pow_right (by omega) (by omega)
  have h1 : b * 256 ^ k ≤ 255 * 256 ^ 3 := Nat.mul_le_mul (by omega) h7
  rw [Int.emod_eq_of_lt (a := (b : Int)) (by omega) (by omega)]
  have e : ((b : Int) * 2 ^ (8 * k)) = ((b * 256 ^ k : Nat) : Int) := by
    rw [← pow8]; simp
  rw [e, Int.emod_eq_of_lt (by omega) (by omega), or_u32 _ _ (by omega) (by omega)]
  congr 1
  rw [Nat.or_comm, Nat.mul_comm b, ← pow8, ← Nat.two_pow_add_eq_or_of_lt (by rw [pow8]; exact ha), Nat.add_comm]

set_option maxHeartbeats 1000000 in
theorem number_any (t : List UInt8) (w : World) (hlen : t.length ≤ 4) :
    Calls Tryd.prog 86 #[.string (B t)] w fun r w' => r = .returned (.int .u32 (lowV t)) ∧ w = w' := by
  go_enter Tryd.func86, Tryd.ntmps86
  go_wp2
  go_loop [3, 7] (fun n i => ∃ k : Nat, k ≤ t.length ∧ i = .int .i64 k ∧ n = .int .u32 (lowV (t.take k))) (fun _ i => t.length - (intOf i).toNat)
  case atStart => exact ⟨0, Nat.zero_le _, rfl, rfl⟩
  case round =>
    obtain ⟨k, hk, rfl, rfl⟩ := hrel
    by_cases hlt : k < t.length
    · go_wp2
      go_round
      case rel =>
        refine ⟨k + 1, by omega, by go_num, ?_⟩
        congr 1
        have hl1 := lowV_lt (t.take k)
        have hl2 : (t.take k).length = k := by simp; omega
        rw [hl2] at hl1
        refine (or_low _ (t[k].toNat) k hl1 t[k].toNat_lt (by omega)).trans ?_
        rw [List.take_succ_eq_append_getElem hlt, lowV_snoc, hl2]
      case measure => simp [intOf]; omega
    · go_wp2
      go_ret
      refine ⟨ret_int ?_, rfl⟩
      rw [List.take_of_length_le (by omega)]
end Go.Proofs.YtilimfbjkgeciaaDoor
