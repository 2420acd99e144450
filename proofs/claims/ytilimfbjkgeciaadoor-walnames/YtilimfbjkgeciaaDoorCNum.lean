/-
  The sum of 32 bits, as plain numbers: one step, eight steps, a text; the table of sixteen words does four steps; steps tell words apart. No conditions but those written.
-/
namespace Go.Proofs.YtilimfbjkgeciaaDoor
set_option maxRecDepth 100000

def poly : Nat := 3988292384
/-- One of a byte's eight steps. -/
def step (n : Nat) : Nat := (n / 2) ^^^ (if n % 2 = 1 then poly else 0)
def step4 (n : Nat) : Nat := step (step (step (step n)))
def step8 (n : Nat) : Nat := step4 (step4 n)
/-- What one byte makes of the word. -/
def c_upd (n : Nat) (b : UInt8) : Nat := step8 (n ^^^ b.toNat)
def run (n : Nat) (l : List UInt8) : Nat := l.foldl c_upd n
/-- The sum of a text, going on from a sum. -/
def more (sum : Nat) (l : List UInt8) : Nat := 4294967295 - run (4294967295 - sum) l
def sumL (l : List UInt8) : Nat := more 0 l

def tab : List Nat := [0, 498536548, 997073096, 651767980, 1994146192, 1802195444, 1303535960, 1342533948, 3988292384, 4027552580, 3604390888, 3412177804, 2607071920, 2262029012, 2685067896, 3183342108]

theorem xor_lt32 {a b : Nat} (ha : a < 4294967296) (hb : b < 4294967296) : a ^^^ b < 4294967296 := Nat.xor_lt_two_pow (n := 32) ha hb
theorem step_lt {n : Nat} (h : n < 4294967296) : step n < 4294967296 := by
  unfold step
  refine xor_lt32 (by omega) ?_
  split <;> decide
theorem step4_lt {n : Nat} (h : n < 4294967296) : step4 n < 4294967296 := step_lt (step_lt (step_lt (step_lt h)))
theorem step8_lt {n : Nat} (h : n < 4294967296) : step8 n < 4294967296 := step4_lt (step4_lt h)
theorem upd_lt {n : Nat} (h : n < 4294967296) (b : UInt8) : c_upd n b < 4294967296 := by
  refine step8_lt (xor_lt32 h ?_)
  have := b.toNat_lt
  omega
theorem run_lt {n : Nat} (h : n < 4294967296) (l : List UInt8) : run n l < 4294967296 := by
  unfold run
  induction l generalizing n with
  | nil => exact h
  | cons b l ih => exact ih (upd_lt h b)
theorem more_lt (s : Nat) (l : List UInt8) : more s l < 4294967296 := by unfold more; omega
theorem run_append (n : Nat) (l m : List UInt8) : run n (l ++ m) = run (run n l) m := by simp [run]
theorem run_snoc (n : Nat) (l : List UInt8) (b : UInt8) : run n (l ++ [b]) = c_upd (run n l) b := by simp [run]
theorem more_append (s : Nat) (l m : List UInt8) : more s (l ++ m) = more (more s l) m := by
  unfold more
  rw [run_append]
  have h := run_lt (n := 4294967295 - s) (by omega) l
  rw [show 4294967295 - (4294967295 - run (4294967295 - s) l) = run (4294967295 - s) l by omega]
theorem more_nil (s : Nat) (h : s < 4294967296) : more s [] = s := by
  unfold more run
  simp only [List.foldl_nil]
  omega

theorem step_xor (a b : Nat) : step (a ^^^ b) = step a ^^^ step b := by
  unfold step
  rw [Nat.xor_div_two]
  by_cases h : a % 2 = 1 <;> by_cases k : b % 2 = 1
  · rw [if_neg (by rw [Nat.xor_mod_two_eq_one]; simp [h, k]), if_pos h, if_pos k, Nat.xor_zero, Nat.xor_assoc (a / 2), ← Nat.xor_assoc poly, Nat.xor_comm poly, Nat.xor_assoc (b / 2), Nat.xor_self, Nat.xor_zero]
  · rw [if_pos (by rw [Nat.xor_mod_two_eq_one]; simp [h, k]), if_pos h, if_neg k, Nat.xor_zero, Nat.xor_assoc, Nat.xor_assoc, Nat.xor_comm poly]
  · rw [if_pos (by rw [Nat.xor_mod_two_eq_one]; simp [h, k]), if_neg h, if_pos k, Nat.xor_zero, Nat.xor_assoc]
  · rw [if_neg (by rw [Nat.xor_mod_two_eq_one]; simp [h, k]), if_neg h, if_neg k, Nat.xor_zero, Nat.xor_zero, Nat.xor_zero]
theorem step_double (m : Nat) : step (2 * m) = m := by
  unfold step
  rw [if_neg (by omega), Nat.xor_zero]
  omega
theorem step4_xor (a b : Nat) : step4 (a ^^^ b) = step4 a ^^^ step4 b := by unfold step4; simp only [step_xor]
theorem step4_times (m : Nat) : step4 (16 * m) = m := by
  unfold step4
  rw [show 16 * m = 2 * (2 * (2 * (2 * m))) by omega]
  simp only [step_double]
theorem step4_tab : ∀ r, r < 16 → step4 r = tab.getD r 0 := by decide
theorem parts16 (n : Nat) : n = (16 * (n / 16)) ^^^ (n % 16) := by
  have h := Nat.two_pow_add_eq_or_of_lt (i := 4) (b := n % 16) (by omega) (n / 16)
  have h2 : (2 ^ 4 * (n / 16)) ^^^ (n % 16) = 2 ^ 4 * (n / 16) + n % 16 := by
    rw [h]
    apply Nat.eq_of_testBit_eq
    intro i
    simp only [Nat.testBit_xor, Nat.testBit_or]
    rw [Nat.testBit_two_pow_mul]
    by_cases hi : 4 ≤ i
    · have : (n % 16).testBit i = false := Nat.testBit_lt_two_pow (Nat.lt_of_lt_of_le (by omega : n % 16 < 2 ^ 4) (Nat.pow_le_pow_right (by omega) hi))
      simp [this]
    · simp [hi]
  simp only [Nat.reducePow] at h2
  omega
/-- Four steps by the table. -/
theorem four_tab (n : Nat) : (n / 16) ^^^ tab.getD (n % 16) 0 = step4 n := by
  conv => rhs; rw [parts16 n]
  rw [step4_xor, step4_times, step4_tab _ (Nat.mod_lt _ (by omega))]

theorem xor_cancel {a b c : Nat} (h : a ^^^ c = b ^^^ c) : a = b := by
  have := congrArg (· ^^^ c) h
  simpa [Nat.xor_assoc] using this
theorem step_inj {a b : Nat} (ha : a < 4294967296) (hb : b < 4294967296) (h : step a = step b) : a = b := by
  unfold step at h
  rcases Nat.mod_two_eq_zero_or_one a with h1 | h1 <;> rcases Nat.mod_two_eq_zero_or_one b with h2 | h2 <;> simp only [h1, h2] at h <;> simp at h
  · omega
  · exfalso
    have e : poly = (b / 2) ^^^ (a / 2) := by
      rw [h, ← Nat.xor_assoc, Nat.xor_self, Nat.zero_xor]
    have : (b / 2) ^^^ (a / 2) < 2 ^ 31 := Nat.xor_lt_two_pow (by omega) (by omega)
    rw [← e] at this
    exact absurd this (by decide)
  · exfalso
    have e : poly = (a / 2) ^^^ (b / 2) := by
      rw [← h, ← Nat.xor_assoc, Nat.xor_self, Nat.zero_xor]
    have : (a / 2) ^^^ (b / 2) < 2 ^ 31 := Nat.xor_lt_two_pow (by omega) (by omega)
    rw [← e] at this
    exact absurd this (by decide)
  · have := xor_cancel h
    omega
theorem step4_inj {a b : Nat} (ha : a < 4294967296) (hb : b < 4294967296) (h : step4 a = step4 b) : a = b :=
  step_inj ha hb (step_inj (step_lt ha) (step_lt hb) (step_inj (step_lt (step_lt ha)) (step_lt (step_lt hb)) (step_inj (step_lt (step_lt (step_lt ha))) (step_lt (step_lt (step_lt hb))) h)))
theorem step8_inj {a b : Nat} (ha : a < 4294967296) (hb : b < 4294967296) (h : step8 a = step8 b) : a = b := step4_inj ha hb (step4_inj (step4_lt ha) (step4_lt hb) h)
theorem byte_lt32 (b : UInt8) : b.toNat < 4294967296 := by have := b.toNat_lt; omega
theorem upd_inj {a b : Nat} (ha : a < 4294967296) (hb : b < 4294967296) (c : UInt8) (h : c_upd a c = c_upd b c) : a = b :=
  xor_cancel (step8_inj (xor_lt32 ha (byte_lt32 c)) (xor_lt32 hb (byte_lt32 c)) h)
theorem upd_byte {a : Nat} (ha : a < 4294967296) {c d : UInt8} (h : c_upd a c = c_upd a d) : c = d := by
  have := step8_inj (xor_lt32 ha (byte_lt32 c)) (xor_lt32 ha (byte_lt32 d)) h
  rw [Nat.xor_comm a, Nat.xor_comm a] at this
  exact UInt8.toNat_inj.1 (xor_cancel this)
theorem run_inj {a b : Nat} (ha : a < 4294967296) (hb : b < 4294967296) (l : List UInt8) (h : run a l = run b l) : a = b := by
  induction l generalizing a b with
  | nil => exact h
  | cons c l ih => exact upd_inj ha hb c (ih (upd_lt ha c) (upd_lt hb c) h)
/-- Texts of one byte's difference have unlike sums. -/
theorem run_apart {a : Nat} (ha : a < 4294967296) (p q : List UInt8) {c d : UInt8} (h : c ≠ d) : run a (p ++ c :: q) ≠ run a (p ++ d :: q) := by
  intro e
  rw [run_append, run_append] at e
  have hp := run_lt ha p
  have := run_inj (upd_lt hp c) (upd_lt hp d) q e
  exact h (upd_byte hp this)
theorem more_apart (s : Nat) (p q : List UInt8) {c d : UInt8} (h : c ≠ d) : more s (p ++ c :: q) ≠ more s (p ++ d :: q) := by
  have h1 := run_apart (a := 4294967295 - s) (by omega) p q h
  have h2 := run_lt (n := 4294967295 - s) (by omega) (p ++ c :: q)
  have h3 := run_lt (n := 4294967295 - s) (by omega) (p ++ d :: q)
  unfold more
  omega
end Go.Proofs.YtilimfbjkgeciaaDoor
