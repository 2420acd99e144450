/-
  Sums of 32 bits, of the code and of the reference. Conditions: lengths as written; the table lies where it lies.
-/
import Derived.Test.YtacniohflhpgaaaDoorPWrd
namespace Go.Proofs.YtacniohflhpgaaaDoor
open Go.RowKit

def poly : Nat := 3988292384
/-- One of a byte's eight steps. -/
def step (n : Nat) : Nat := (n / 2) ^^^ (if n % 2 = 1 then poly else 0)
def step4 (n : Nat) : Nat := step (step (step (step n)))
def step8 (n : Nat) : Nat := step4 (step4 n)
/-- What one byte makes of the word. -/
def upd (n : Nat) (b : UInt8) : Nat := step8 (n ^^^ b.toNat)
def run (n : Nat) (l : List UInt8) : Nat := l.foldl upd n
/-- The sum of a text, going on from a sum. -/
def more (sum : Nat) (l : List UInt8) : Nat := 4294967295 - run (4294967295 - sum) l
def sumL (l : List UInt8) : Nat := more 0 l
def tab : List Nat := [0, 498536548, 997073096, 651767980, 1994146192, 1802195444, 1303535960, 1342533948, 3988292384, 4027552580, 3604390888, 3412177804, 2607071920, 2262029012, 2685067896, 3183342108]
theorem xor_lt32 {a b : Nat} (ha : a < 4294967296) (hb : b < 4294967296) : a ^^^ b < 4294967296 := Nat.xor_lt_two_pow (n := 32) ha hb
theorem step_lt {n : Nat} (h : n < 4294967296) : step n < 4294967296 := by
  unfold step
  refine xor_lt32 (by omega) ?_
  split <;> decide
theorem step4_lt {n : Nat} (h : n < 4294967296) : step4 n < 4294967296 := step_lt (step_lt (step_lt (step_lt h)))
theorem step8_lt {n : Nat} (h : n < 4294967296) : step8 n < 4294967296 := step4_lt (step4_lt h)
theorem upd_lt {n : Nat} (h : n < 4294967296) (b : UInt8) : upd n b < 4294967296 := by
  refine step8_lt (xor_lt32 h ?_)
  have := b.toNat_lt
  omega
theorem run_lt {n : Nat} (h : n < 4294967296) (l : List UInt8) : run n l < 4294967296 := by
  unfold run
  induction l generalizing n with
  | nil => exact h
  | cons b l ih => exact ih (upd_lt h b)
theorem more_lt (s : Nat) (l : List UInt8) : more s l < 4294967296 := by unfold more; omega
theorem run_append (n : Nat) (l m : List UInt8) : run n (l ++ m) = run (run n l) m := by simp [run]
theorem run_snoc (n : Nat) (l : List UInt8) (b : UInt8) : run n (l ++ [b]) = upd (run n l) b := by simp [run]
theorem more_append (s : Nat) (l m : List UInt8) : more s (l ++ m) = more (more s l) m := by
  unfold more
  rw [run_append]
  have h := run_lt (n := 4294967295 - s) (by omega) l
  rw [show 4294967295 - (4294967295 - run (4294967295 - s) l) = run (4294967295 - s) l by omega]
theorem more_nil (s : Nat) (h : s < 4294967296) : more s [] = s := by
  unfold more run
  simp only [List.foldl_nil]
  omega
theorem step_xor (a b : Nat) : step (a ^^^ b) = step a ^^^ step b := by
  unfold step
  rw [Nat.xor_div_two]
  by_cases h : a % 2 = 1 <;> by_cases k : b % 2 = 1
  · rw [if_neg (by rw [Nat.xor_mod_two_eq_one]; simp [h, k]), if_pos h, if_pos k, Nat.xor_zero, Nat.xor_assoc (a / 2), ← Nat.xor_assoc poly, Nat.xor_comm poly, Nat.xor_assoc (b / 2), Nat.xor_self, Nat.xor_zero]
  · rw [if_pos (by rw [Nat.xor_mod_two_eq_one]; simp [h, k]), if_pos h, if_neg k, Nat.xor_zero, Nat.xor_assoc, Nat.xor_assoc, Nat.xor_comm poly]
  · rw [if_pos (by rw [Nat.xor_mod_two_eq_one]; simp [h, k]), if_neg h, if_pos k, Nat.xor_zero, Nat.xor_assoc]
  · rw [if_neg (by rw [Nat.xor_mod_two_eq_one]; simp [h, k]), if_neg h, if_neg k, Nat.xor_zero, Nat.xor_zero, Nat.xor_zero]
theorem step_double (m : Nat) : step (2 * m) = m := by
  unfold step
  rw [if_neg (by omega), Nat.xor_zero]
  omega
theorem step4_xor (a b : Nat) : step4 (a ^^^ b) = step4 a ^^^ step4 b := by unfold step4; simp only [step_xor]
theorem step4_times (m : Nat) : step4 (16 * m) = m := by
  unfold step4
  rw [show 16 * m = 2 * (2 * (2 * (2 * m))) by omega]
  simp only [step_double]
theorem step4_tab : ∀ r, r < 16 → step4 r = tab.getD r 0 := by decide
theorem parts16 (n : Nat) : n = (16 * (n / 16)) ^^^ (n % 16) := by
  have h := Nat.two_pow_add_eq_or_of_lt (i := 4) (b := n % 16) (by omega) (n / 16)
  have h2 : (2 ^ 4 * (n / 16)) ^^^ (n % 16) = 2 ^ 4 * (n / 16) + n % 16 := by
    rw [h]
    apply Nat.eq_of_testBit_eq
    intro i
    simp only [Nat.testBit_xor, Nat.testBit_or]
    rw [Nat.testBit_two_pow_mul]
    by_cases hi : 4 ≤ i
    · have : (n % 16).testBit i = false := Nat.testBit_lt_two_pow (Nat.lt_of_lt_of_le (by omega : n % 16 < 2 ^ 4) (Nat.pow_le_pow_right (by omega) hi))
      simp [this]
    · simp [hi]
  simp only [Nat.reducePow] at h2
  omega
/-- Four steps by the table. -/
theorem four_tab (n : Nat) : (n / 16) ^^^ tab.getD (n % 16) 0 = step4 n := by
  conv => rhs; rw [parts16 n]
  rw [step4_xor, step4_times, step4_tab _ (Nat.mod_lt _ (by omega))]
theorem xor_cancel {a b c : Nat} (h : a ^^^ c = b ^^^ c) : a = b := by
  have := congrArg (· ^^^ c) h
  simpa [Nat.xor_assoc] using this
theorem step_inj {a b : Nat} (ha : a < 4294967296) (hb : b < 4294967296) (h : step a = step b) : a = b := by
  unfold step at h
  rcases Nat.mod_two_eq_zero_or_one a with h1 | h1 <;> rcases Nat.mod_two_eq_zero_or_one b with h2 | h2 <;> simp only [h1, h2] at h <;> simp at h
  · omega
  · exfalso
    have e : poly = (b / 2) ^^^ (a / 2) := by
      rw [h, ← Nat.xor_assoc, Nat.xor_self, Nat.zero_xor]
    have : (b / 2) ^^^ (a / 2) < 2 ^ 31 := Nat.xor_lt_two_pow (by omega) (by omega)
    rw [← e] at this
    exact absurd this (by decide)
  · exfalso
    have e : poly = (a / 2) ^^^ (b / 2) := by
      rw [← h, ← Nat.xor_assoc, Nat.xor_self, Nat.zero_xor]
    have : (a / 2) ^^^ (b / 2) < 2 ^ 31 := Nat.xor_lt_two_pow (by omega) (by omega)
    rw [← e] at this
    exact absurd this (by decide)
  · have := xor_cancel h
    omega
theorem step4_inj {a b : Nat} (ha : a < 4294967296) (hb : b < 4294967296) (h : step4 a = step4 b) : a = b :=
  step_inj ha hb (step_inj (step_lt ha) (step_lt hb) (step_inj (step_lt (step_lt ha)) (step_lt (step_lt hb)) (step_inj (step_lt (step_lt (step_lt ha))) (step_lt (step_lt (step_lt hb))) h)))
theorem step8_inj {a b : Nat} (ha : a < 4294967296) (hb : b < 4294967296) (h : step8 a = step8 b) : a = b := step4_inj ha hb (step4_inj (step4_lt ha) (step4_lt hb) h)
theorem byte_lt32 (b : UInt8) : b.toNat < 4294967296 := by have := b.toNat_lt; omega
theorem upd_inj {a b : Nat} (ha : a < 4294967296) (hb : b < 4294967296) (c : UInt8) (h : upd a c = upd b c) : a = b :=
  xor_cancel (step8_inj (xor_lt32 ha (byte_lt32 c)) (xor_lt32 hb (byte_lt32 c)) h)
theorem upd_byte {a : Nat} (ha : a < 4294967296) {c d : UInt8} (h : upd a c = upd a d) : c = d := by
  have := step8_inj (xor_lt32 ha (byte_lt32 c)) (xor_lt32 ha (byte_lt32 d)) h
  rw [Nat.xor_comm a, Nat.xor_comm a] at this
  exact UInt8.toNat_inj.1 (xor_cancel this)
theorem run_inj {a b : Nat} (ha : a < 4294967296) (hb : b < 4294967296) (l : List UInt8) (h : run a l = run b l) : a = b := by
  induction l generalizing a b with
  | nil => exact h
  | cons c l ih => exact upd_inj ha hb c (ih (upd_lt ha c) (upd_lt hb c) h)
/-- Texts of one byte's difference have unlike sums. -/
theorem run_apart {a : Nat} (ha : a < 4294967296) (p q : List UInt8) {c d : UInt8} (h : c ≠ d) : run a (p ++ c :: q) ≠ run a (p ++ d :: q) := by
  intro e
  rw [run_append, run_append] at e
  have hp := run_lt ha p
  have := run_inj (upd_lt hp c) (upd_lt hp d) q e
  exact h (upd_byte hp this)
theorem more_apart (s : Nat) (p q : List UInt8) {c d : UInt8} (h : c ≠ d) : more s (p ++ c :: q) ≠ more s (p ++ d :: q) := by
  have h1 := run_apart (a := 4294967295 - s) (by omega) p q h
  have h2 := run_lt (n := 4294967295 - s) (by omega) (p ++ c :: q)
  have h3 := run_lt (n := 4294967295 - s) (by omega) (p ++ d :: q)
  unfold more
  omega
/-- The table lies where the program's text lays it. -/
def Tab (w : World) : Prop := 0 < w.heap.size ∧ ∀ i, i < 16 → w.cell? ⟨0, i, none⟩ = some (.int .u32 (tab.getD i 0 : Nat))
theorem Tab.below {w w' : World} {b : Nat} (h : Tab w) (hb : Below b w w') (h0 : 0 < b) : Tab w' := by
  refine ⟨?_, fun i hi => ?_⟩
  · have := hb.size; have := h.1; omega
  · rw [hb.cell (p := ⟨0, i, none⟩) h0]; exact h.2 i hi
theorem Tab.old {w w' : World} (h : Tab w) (hb : Old w w') : Tab w' := h.below hb h.1
theorem Tab.al {w : World} (h : Tab w) (o : Obj) : Tab (w.alloc o) := h.old (old_alloc _ _)
theorem wrap_u32_id (x : Nat) (h : x < 4294967296) : IntKind.u32.wrap (x : Int) = (x : Int) := by
  rw [IntKind.wrap_u32]; omega
theorem xor_u32 (a b : Nat) (ha : a < 4294967296) (hb : b < 4294967296) : bits BinOp.xor IntKind.u32 (a : Int) (b : Int) = ((a ^^^ b : Nat) : Int) := by
  show IntKind.u32.wrap ((BitVec.ofInt 32 (a : Int) ^^^ BitVec.ofInt 32 (b : Int)).toNat : Int) = _
  rw [BitVec.toNat_xor, BitVec.ofInt_natCast, BitVec.ofInt_natCast, BitVec.toNat_ofNat, BitVec.toNat_ofNat, Nat.mod_eq_of_lt (by omega), Nat.mod_eq_of_lt (by omega)]
  exact wrap_u32_id _ (xor_lt32 ha hb)
theorem or_u32 (a b : Nat) (ha : a < 4294967296) (hb : b < 4294967296) : bits BinOp.or IntKind.u32 (a : Int) (b : Int) = ((a ||| b : Nat) : Int) := by
  show IntKind.u32.wrap ((BitVec.ofInt 32 (a : Int) ||| BitVec.ofInt 32 (b : Int)).toNat : Int) = _
  rw [BitVec.toNat_or, BitVec.ofInt_natCast, BitVec.ofInt_natCast, BitVec.toNat_ofNat, BitVec.toNat_ofNat, Nat.mod_eq_of_lt (by omega), Nat.mod_eq_of_lt (by omega)]
  exact wrap_u32_id _ (by have : a ||| b < 2 ^ 32 := Nat.or_lt_two_pow (by omega) (by omega); omega)
theorem tab_lt (i : Nat) (h : i < 16) : tab.getD i 0 < 4294967296 := by
  rw [← step4_tab i h]; exact step4_lt (by omega)
set_option maxHeartbeats 400000 in
theorem four_any (n : Nat) (hn : n < 4294967296) (w : World) (h : Tab w) :
    Calls Tryd.prog 50 #[.int .u32 n] w fun e w' => e = .returned (.int .u32 (step4 n : Nat)) ∧ w = w' := by
  have hm : n % 16 < 16 := Nat.mod_lt _ (by omega)
  have hc := h.2 (n % 16) hm
  go_enter Tryd.func50, Tryd.ntmps50
  go_wp2
  go_ret
  refine ⟨ret_int ?_, rfl⟩
  rw [show ((n : Int) / 16) = ((n / 16 : Nat) : Int) by simp, xor_u32 _ _ (by omega) (by have := tab_lt _ hm; rwa [List.getD_eq_getElem?_getD] at this)]
  congr 1
  have := four_tab n
  rwa [List.getD_eq_getElem?_getD] at this
theorem not_u32 (n : Nat) (h : n < 4294967296) : bits BinOp.xor IntKind.u32 IntKind.u32.max (n : Int) = ((4294967295 - n : Nat) : Int) := by
  have hm : IntKind.u32.max = ((4294967295 : Nat) : Int) := by decide
  rw [hm, xor_u32 _ _ (by omega) h]
  congr 1
  have h3 : (BitVec.allOnes 32 ^^^ BitVec.ofNat 32 n).toNat = (~~~ BitVec.ofNat 32 n).toNat := by rw [BitVec.allOnes_xor]
  rw [BitVec.toNat_xor, BitVec.toNat_not, BitVec.toNat_ofNat, BitVec.toNat_allOnes, Nat.mod_eq_of_lt (by omega)] at h3
  simpa using h3
theorem xor_byte (l : List UInt8) (k : Nat) (hlt : k < l.length) (m : Nat) (hr : m < 4294967296) :
    bits BinOp.xor IntKind.u32 (m : Int) ((((B l)[k]'(by simpa [ByteArray.size] using hlt)).toNat : Int) % 4294967296) = ((m ^^^ l[k].toNat : Nat) : Int) := by
  rw [show (B l)[k]'(by simpa [ByteArray.size] using hlt) = l[k] from rfl]
  have := byte_lt32 l[k]
  rw [Int.emod_eq_of_lt (by omega) (by omega), xor_u32 _ _ hr (byte_lt32 _)]
set_option maxHeartbeats 400000 in
theorem more_any (s : Nat) (hs : s < 4294967296) (l : List UInt8) (hl : l.length ≤ 1000000) (w : World) (h : Tab w) :
    Calls Tryd.prog 34 #[.int .u32 s, .string (B l)] w fun e w' => e = .returned (.int .u32 (more s l : Nat)) ∧ w = w' := by
  have hn := not_u32 s hs
  have hsg : IntKind.u32.signed = false := rfl
  go_enter Tryd.func34, Tryd.ntmps34
  go_wp2_with fail
  go_loop [5, 11] (fun n i => ∃ k : Nat, k ≤ l.length ∧ i = .int .i64 k ∧ n = .int .u32 (run (4294967295 - s) (l.take k) : Nat)) (fun _ i => l.length - (intOf i).toNat)
  case atStart => exact ⟨0, Nat.zero_le _, rfl, rfl⟩
  case round =>
    obtain ⟨k, hk, rfl, rfl⟩ := hrel
    have hr := run_lt (n := 4294967295 - s) (by omega) (l.take k)
    by_cases hlt : k < l.length
    · have hsn : run (4294967295 - s) (l.take (k + 1)) = upd (run (4294967295 - s) (l.take k)) l[k] := by rw [List.take_succ_eq_append_getElem hlt, run_snoc]
      have HS := Lib.hid hsn
      clear hsn
      generalize run (4294967295 - s) (l.take k) = m at *
      have hx := xor_byte l k hlt m hr
      go_wp2_with fail
      refine (four_any _ (xor_lt32 hr (byte_lt32 _)) _ h).mono ?_
      rintro e w1 ⟨rfl, rfl⟩
      go_wp2_with fail
      refine (four_any _ (step4_lt (xor_lt32 hr (byte_lt32 _))) _ h).mono ?_
      rintro e w1 ⟨rfl, rfl⟩
      go_wp2
      go_round
      case rel =>
        refine ⟨k + 1, by omega, by go_num, ?_⟩
        rw [HS.out]
        rfl
      case measure => simp [intOf]; omega
    · have HS := Lib.hid (show more s l = 4294967295 - run (4294967295 - s) (l.take k) by rw [List.take_of_length_le (by omega)]; rfl)
      generalize run (4294967295 - s) (l.take k) = m at *
      have hx := not_u32 m hr
      go_wp2
      go_ret
      refine ⟨ret_int ?_, rfl⟩
      rw [HS.out]
set_option maxHeartbeats 400000 in
theorem sum_any (l : List UInt8) (hl : l.length ≤ 1000000) (w : World) (h : Tab w) :
    Calls Tryd.prog 22 #[.string (B l)] w fun e w' => e = .returned (.int .u32 (sumL l : Nat)) ∧ w = w' := by
  go_enter Tryd.func22, Tryd.ntmps22
  go_wp2_with fail
  refine (more_any 0 (by omega) l hl _ h).mono ?_
  rintro e w1 ⟨rfl, rfl⟩
  go_wp2
  go_ret
  exact ⟨rfl, rfl⟩
def stepN : Nat → Nat → Nat
  | 0, n => n
  | j + 1, n => step (stepN j n)
theorem stepN_lt (j : Nat) {n : Nat} (h : n < 4294967296) : stepN j n < 4294967296 := by
  induction j with
  | zero => exact h
  | succ j ih => exact step_lt ih
set_option maxHeartbeats 1000000 in
theorem rmore_any (s : Nat) (hs : s < 4294967296) (l : List UInt8) (hl : l.length ≤ 1000000) (w : World) :
    Calls Tryd.prog 35 #[.int .u32 s, .string (B l)] w fun e w' => e = .returned (.int .u32 (more s l : Nat)) ∧ w = w' := by
  have hn : IntKind.u32.wrap (4294967295 - (s : Int)) = ((4294967295 - s : Nat) : Int) := by rw [IntKind.wrap_u32]; omega
  go_enter Tryd.func35, Tryd.ntmps35
  go_wp2_with fail
  go_loop [5, 6] (fun n i => ∃ k : Nat, k ≤ l.length ∧ i = .int .i64 k ∧ n = .int .u32 (run (4294967295 - s) (l.take k) : Nat)) (fun _ i => l.length - (intOf i).toNat)
  case atStart => exact ⟨0, Nat.zero_le _, rfl, congrArg _ (by first | exact hn | rfl)⟩
  case round =>
    obtain ⟨k, hk, rfl, rfl⟩ := hrel
    have hr := run_lt (n := 4294967295 - s) (by omega) (l.take k)
    by_cases hlt : k < l.length
    · have hsn : run (4294967295 - s) (l.take (k + 1)) = upd (run (4294967295 - s) (l.take k)) l[k] := by rw [List.take_succ_eq_append_getElem hlt, run_snoc]
      have HS := Lib.hid hsn
      clear hsn
      generalize run (4294967295 - s) (l.take k) = m at *
      have hx := xor_byte l k hlt m hr
      go_wp2_with fail
      have hm : m ^^^ l[k].toNat < 4294967296 := xor_lt32 hr (byte_lt32 _)
      have HM := Lib.hid (show upd m l[k] = stepN 8 (m ^^^ l[k].toNat) from rfl)
      generalize m ^^^ l[k].toNat = x at *
      go_loop [5, 7] (fun n i => ∃ j : Nat, j ≤ 8 ∧ i = .int .i64 j ∧ n = .int .u32 (stepN j x : Nat)) (fun _ i => 8 - (intOf i).toNat)
      case atStart => exact ⟨0, Nat.zero_le _, rfl, rfl⟩
      case round =>
        obtain ⟨j, hj, rfl, rfl⟩ := hrel
        have hq := stepN_lt j hm
        by_cases hjl : j < 8
        · have HJ := Lib.hid (show stepN (j + 1) x = step (stepN j x) from rfl)
          generalize stepN j x = y at *
          by_cases hp : y % 2 = 1
          · have hp2 : ((y : Int) % 2 == 1) = true := by rw [beq_iff_eq]; omega
            have hx2 : bits BinOp.xor IntKind.u32 ((y : Int) / 2) 3988292384 = ((step y : Nat) : Int) := by
              unfold step
              rw [if_pos hp, show ((y : Int) / 2) = ((y / 2 : Nat) : Int) by simp]
              exact xor_u32 _ poly (by omega) (by decide)
            go_wp2
            go_round
            case rel => exact ⟨j + 1, by omega, by go_num, by rw [HJ.out]⟩
            case measure => simp [intOf]; omega
          · have hp2 : ((y : Int) % 2 == 1) = false := by rw [beq_eq_false_iff_ne]; omega
            go_wp2
            go_round
            case rel =>
              refine ⟨j + 1, by omega, by go_num, ?_⟩
              rw [HJ.out]
              unfold step
              rw [if_neg hp, Nat.xor_zero]
              simp
            case measure => simp [intOf]; omega
        · obtain rfl : j = 8 := by omega
          rw [← HM.out] at hq ⊢
          rw [← HS.out] at hq ⊢
          go_wp2
          go_round
          case rel => exact ⟨k + 1, by omega, by go_num, rfl⟩
          case measure => simp [intOf]; omega
    · have HS := Lib.hid (show more s l = 4294967295 - run (4294967295 - s) (l.take k) by rw [List.take_of_length_le (by omega)]; rfl)
      generalize run (4294967295 - s) (l.take k) = m at *
      go_wp2
      go_ret
      refine ⟨ret_int ?_, rfl⟩
      rw [HS.out]
      omega
set_option maxHeartbeats 400000 in
theorem rsum_any (l : List UInt8) (hl : l.length ≤ 1000000) (w : World) :
    Calls Tryd.prog 23 #[.string (B l)] w fun e w' => e = .returned (.int .u32 (sumL l : Nat)) ∧ w = w' := by
  go_enter Tryd.func23, Tryd.ntmps23
  go_wp2_with fail
  refine (rmore_any 0 (by omega) l hl _).mono ?_
  rintro e w1 ⟨rfl, rfl⟩
  go_wp2
  go_ret
  exact ⟨rfl, rfl⟩
set_option maxHeartbeats 1000000 in
theorem psum_any (l : List UInt8) (hl : l.length ≤ 1000000) (w : World) (h : Tab w) :
    Calls Tryd.prog 14 #[.string (B l)] w fun e w' => e = .returned (.int .u32 (sumL l : Nat)) ∧ w = w' := by
  go_enter Tryd.func14, Tryd.ntmps14
  go_wp2_with (go_at_call 22; refine (sum_any l hl _ h).mono ?_; rintro e w' ⟨rfl, rfl⟩)
  go_ret
  exact ⟨rfl, rfl⟩
set_option maxHeartbeats 1000000 in
theorem rpsum_any (l : List UInt8) (hl : l.length ≤ 1000000) (w : World) :
    Calls Tryd.prog 15 #[.string (B l)] w fun e w' => e = .returned (.int .u32 (sumL l : Nat)) ∧ w = w' := by
  go_enter Tryd.func15, Tryd.ntmps15
  go_wp2_with (go_at_call 23; refine (rsum_any l hl _).mono ?_; rintro e w' ⟨rfl, rfl⟩)
  go_ret
  exact ⟨rfl, rfl⟩
end Go.Proofs.YtacniohflhpgaaaDoor
