/-
  Bits of bytes, as plain lists: one bit set, many set, how many there are, bytes out of bits. No program in it. No conditions but those written.
-/
namespace Go.Proofs.YtphonnihibikcaaDoor

/-- Bit i of these bytes. -/
def bitAt (f : List UInt8) (i : Nat) : Bool := (f.getD (i / 8) 0).toNat.testBit (i % 8)
/-- The byte with one bit more. -/
def orBit (b : UInt8) (k : Nat) : UInt8 := UInt8.ofNat (b.toNat ||| 2 ^ k)
def setBit (f : List UInt8) (p : Nat) : List UInt8 := f.set (p / 8) (orBit (f.getD (p / 8) 0) (p % 8))
def setAll (f : List UInt8) (ps : List Nat) : List UInt8 := ps.foldl setBit f

theorem or_lt (b : UInt8) (k : Nat) (h : k < 8) : b.toNat ||| 2 ^ k < 256 :=
  Nat.or_lt_two_pow (n := 8) b.toNat_lt (Nat.pow_lt_pow_right (by omega) h)
theorem orBit_toNat (b : UInt8) (k : Nat) (h : k < 8) : (orBit b k).toNat = b.toNat ||| 2 ^ k := by
  have := or_lt b k h
  unfold orBit
  rw [UInt8.toNat_ofNat']
  exact Nat.mod_eq_of_lt this
theorem setBit_length (f : List UInt8) (p : Nat) : (setBit f p).length = f.length := by simp [setBit]
theorem setAll_length (ps : List Nat) : ∀ f, (setAll f ps).length = f.length := by
  induction ps with
  | nil => intro f; rfl
  | cons p ps ih => intro f; exact (ih _).trans (setBit_length _ _)
theorem setAll_append (f : List UInt8) (ps qs : List Nat) : setAll f (ps ++ qs) = setAll (setAll f ps) qs := by simp [setAll]
theorem setAll_snoc (f : List UInt8) (ps : List Nat) (p : Nat) : setAll f (ps ++ [p]) = setBit (setAll f ps) p := by simp [setAll]

theorem bitAt_setBit (f : List UInt8) (p i : Nat) (hp : p < 8 * f.length) : bitAt (setBit f p) i = (bitAt f i || i == p) := by
  have hq : p / 8 < f.length := by omega
  unfold bitAt setBit
  by_cases h : i / 8 = p / 8
  · rw [h, List.getD_eq_getElem?_getD, List.getElem?_set_self hq]
    simp only [Option.getD_some]
    rw [orBit_toNat _ _ (by omega), Nat.testBit_or, Nat.testBit_two_pow]
    congr 1
    by_cases hm : p % 8 = i % 8
    · have : i = p := by omega
      simp [hm, this]
    · have : ¬ i = p := by omega
      simp [hm, this]
  · rw [List.getD_eq_getElem?_getD, List.getElem?_set_ne (by omega), ← List.getD_eq_getElem?_getD]
    have : ¬ i = p := by omega
    simp [this]
theorem bitAt_setAll (ps : List Nat) : ∀ (f : List UInt8) (_ : ∀ p ∈ ps, p < 8 * f.length) (i : Nat), bitAt (setAll f ps) i = (bitAt f i || ps.contains i) := by
  induction ps with
  | nil => intro f _ i; simp [setAll]
  | cons p ps ih =>
    intro f h i
    show bitAt (setAll (setBit f p) ps) i = _
    rw [ih _ (fun q hq => by rw [setBit_length]; exact h q (by simp [hq])), bitAt_setBit _ _ _ (h p (by simp)), List.contains_cons, Bool.or_assoc]
theorem bitAt_zero (n i : Nat) : bitAt (List.replicate n 0) i = false := by
  unfold bitAt
  rw [List.getD_eq_getElem?_getD, List.getElem?_replicate]
  split <;> simp
theorem byte_ext {a b : UInt8} (h : ∀ k, k < 8 → a.toNat.testBit k = b.toNat.testBit k) : a = b := by
  apply UInt8.toNat_inj.1
  apply Nat.eq_of_testBit_eq
  intro k
  by_cases hk : k < 8
  · exact h k hk
  · have h2 : (2 : Nat) ^ 8 ≤ 2 ^ k := Nat.pow_le_pow_right (by omega) (by omega)
    rw [Nat.testBit_lt_two_pow (Nat.lt_of_lt_of_le a.toNat_lt h2), Nat.testBit_lt_two_pow (Nat.lt_of_lt_of_le b.toNat_lt h2)]
theorem bits_ext {f g : List UInt8} (hl : f.length = g.length) (h : ∀ i, i < 8 * f.length → bitAt f i = bitAt g i) : f = g := by
  apply List.ext_getElem hl
  intro j h1 h2
  apply byte_ext
  intro k hk
  have := h (8 * j + k) (by omega)
  unfold bitAt at this
  rw [show (8 * j + k) / 8 = j by omega, show (8 * j + k) % 8 = k by omega] at this
  simpa [h1, h2] using this

/-- How many bits of a byte are set. -/
def pop (b : UInt8) : Nat := (List.range 8).countP b.toNat.testBit
def full (f : List UInt8) : Nat := (f.map pop).sum
theorem full_snoc (f : List UInt8) (b : UInt8) : full (f ++ [b]) = full f + pop b := by simp [full]
theorem pop_le (b : UInt8) : pop b ≤ 8 := Nat.le_trans List.countP_le_length (by simp)
theorem full_le (f : List UInt8) : full f ≤ 8 * f.length := by
  induction f with
  | nil => simp [full]
  | cons b f ih =>
    have := pop_le b
    simp only [full, List.map_cons, List.sum_cons, List.length_cons] at *
    omega
theorem range_add8 (n : Nat) : List.range (n + 8) = List.range n ++ (List.range 8).map (n + ·) := List.range_add
theorem bitAt_append_lt (f g : List UInt8) (i : Nat) (h : i < 8 * f.length) : bitAt (f ++ g) i = bitAt f i := by
  unfold bitAt
  rw [List.getD_eq_getElem?_getD, List.getElem?_append_left (by omega), ← List.getD_eq_getElem?_getD]
theorem full_take (f : List UInt8) : ∀ n, n ≤ f.length → full (f.take n) = (List.range (8 * n)).countP (bitAt f)
  | 0, _ => by simp [full]
  | n + 1, h => by
    have hn : n < f.length := by omega
    rw [List.take_succ_eq_append_getElem hn, full_snoc, full_take f n (by omega), Nat.mul_add, Nat.mul_one, range_add8, List.countP_append, List.countP_map]
    congr 1
    unfold pop
    apply List.countP_congr
    intro k hk
    have hk := List.mem_range.1 hk
    simp only [Function.comp, bitAt]
    rw [show (8 * n + k) / 8 = n by omega, show (8 * n + k) % 8 = k by omega]
    simp [hn]
theorem full_count (f : List UInt8) : full f = (List.range (8 * f.length)).countP (bitAt f) := by
  have := full_take f f.length (Nat.le_refl _)
  rwa [List.take_length] at this

/-- How many of the first bits are set. -/
def cnt (f : List UInt8) (m : Nat) : Nat := (List.range m).countP (bitAt f)
theorem cnt_succ (f : List UInt8) (m : Nat) : cnt f (m + 1) = cnt f m + (if bitAt f m then 1 else 0) := by
  unfold cnt
  rw [List.range_succ, List.countP_append, List.countP_singleton]
theorem cnt_le (f : List UInt8) (m : Nat) : cnt f m ≤ m := Nat.le_trans List.countP_le_length (by simp)

/-- The number whose bits are g i, g (i + 1) .., so many. -/
def val (g : Nat → Bool) : Nat → Nat → Nat
  | _, 0 => 0
  | i, c + 1 => 2 * val g (i + 1) c + (if g i then 1 else 0)
theorem val_lt (g : Nat → Bool) : ∀ c i, val g i c < 2 ^ c
  | 0, i => by simp [val]
  | c + 1, i => by
    have := val_lt g c (i + 1)
    simp only [val, Nat.pow_succ]
    split <;> omega
theorem val_bit (g : Nat → Bool) : ∀ c i k, k < c → (val g i c).testBit k = g (i + k)
  | c + 1, i, 0, _ => by
    simp only [val, Nat.testBit_zero, Nat.add_zero]
    cases g i <;> simp <;> omega
  | c + 1, i, k + 1, h => by
    rw [Nat.testBit_succ]
    have : val g i (c + 1) / 2 = val g (i + 1) c := by
      simp only [val]; split <;> omega
    rw [this, val_bit g c (i + 1) k (by omega)]
    congr 1
    omega
/-- The bytes of n of these bits, where those below m are not told yet, and the others of their bytes have gone down. -/
def stage (g : Nat → Bool) (n m : Nat) : List UInt8 := (List.range n).map fun j => UInt8.ofNat (val g (max m (8 * j)) (8 * j + 8 - max m (8 * j)))
theorem stage_length (g : Nat → Bool) (n m : Nat) : (stage g n m).length = n := by simp [stage]
theorem stage_at (g : Nat → Bool) (n m j : Nat) (h : j < n) : (stage g n m)[j]'(by simpa [stage_length] using h) = UInt8.ofNat (val g (max m (8 * j)) (8 * j + 8 - max m (8 * j))) := by simp [stage]
theorem stage_end (g : Nat → Bool) (n : Nat) : stage g n (8 * n) = List.replicate n 0 := by
  apply List.ext_getElem (by simp [stage_length])
  intro j h1 h2
  rw [stage_at _ _ _ _ (by simpa [stage_length] using h1), List.getElem_replicate, show 8 * j + 8 - max (8 * n) (8 * j) = 0 by rw [stage_length] at h1; omega]
  rfl
theorem stage_step (g : Nat → Bool) (n m : Nat) :
    stage g n m = (stage g n (m + 1)).set (m / 8) (UInt8.ofNat (2 * val g (m + 1) (7 - m % 8) + (if g m then 1 else 0))) := by
  apply List.ext_getElem (by simp [stage_length])
  intro j h1 h2
  have hj : j < n := by simpa [stage_length] using h1
  rw [stage_at _ _ _ _ hj]
  by_cases e : m / 8 = j
  · subst e
    rw [List.getElem_set_self]
    rw [show max m (8 * (m / 8)) = m by omega, show 8 * (m / 8) + 8 - m = (7 - m % 8) + 1 by omega]
    rfl
  · rw [List.getElem_set_ne e, stage_at _ _ _ _ hj]
    by_cases hlt : m < 8 * j
    · rw [show max m (8 * j) = 8 * j by omega, show max (m + 1) (8 * j) = 8 * j by omega]
    · rw [show 8 * j + 8 - max m (8 * j) = 0 by omega, show 8 * j + 8 - max (m + 1) (8 * j) = 0 by omega]
      rfl
theorem stage_now (g : Nat → Bool) (n m : Nat) (h : m < 8 * n) : ((stage g n (m + 1))[m / 8]'(by rw [stage_length]; omega)).toNat = val g (m + 1) (7 - m % 8) := by
  rw [stage_at _ _ _ _ (by omega)]
  have e1 : val g (max (m + 1) (8 * (m / 8))) (8 * (m / 8) + 8 - max (m + 1) (8 * (m / 8))) = val g (m + 1) (7 - m % 8) := by
    congr 1 <;> omega
  rw [e1]
  have h1 := val_lt g (7 - m % 8) (m + 1)
  have h2 : 2 ^ (7 - m % 8) ≤ 2 ^ 7 := Nat.pow_le_pow_right (by omega) (by omega)
  simp
  omega
theorem val_small (g : Nat → Bool) (i m : Nat) : val g i (7 - m % 8) < 128 := by
  have h1 := val_lt g (7 - m % 8) i
  have h2 : 2 ^ (7 - m % 8) ≤ 2 ^ 7 := Nat.pow_le_pow_right (by omega) (by omega)
  omega
theorem bitAt_stage (g : Nat → Bool) (n i : Nat) (h : i < 8 * n) : bitAt (stage g n 0) i = g i := by
  unfold bitAt
  have hj : i / 8 < n := by omega
  rw [List.getD_eq_getElem?_getD, List.getElem?_eq_getElem (by rw [stage_length]; exact hj), Option.getD_some, stage_at _ _ _ _ hj]
  rw [show max 0 (8 * (i / 8)) = 8 * (i / 8) by omega, show 8 * (i / 8) + 8 - 8 * (i / 8) = 8 by omega]
  have h1 := val_lt g 8 (8 * (i / 8))
  rw [show (UInt8.ofNat (val g (8 * (i / 8)) 8)).toNat = val g (8 * (i / 8)) 8 by simp; omega]
  rw [val_bit g 8 _ _ (by omega)]
  congr 1
  omega
end Go.Proofs.YtphonnihibikcaaDoor
