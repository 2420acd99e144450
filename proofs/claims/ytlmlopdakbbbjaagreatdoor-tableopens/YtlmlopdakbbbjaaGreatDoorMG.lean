/-
  Texts in one: MTell MBit MMem MMay MFull MBits MMake MSho MCount MRBit MRMay MRMake. Conditions: as each theorem writes them.
-/
import Derived.Test.YtlmlopdakbbbjaaGreatDoorCG
import Derived.Shelf.Abstract
namespace Go.Proofs.YtlmlopdakbbbjaaGreatDoor
open Go.RowKit

/-- The i-th place of a name among so many bits. -/
def place (l : List UInt8) (many i : Nat) : Nat := ((sumL l + i * more (sumL l) [1]) % 4294967296) % many
theorem place_lt (l : List UInt8) (many i : Nat) (h : 0 < many) : place l many i < many := Nat.mod_lt _ h

theorem place_cast (a b k many : Nat) (hm : 0 < many) (hm2 : many ≤ 1000000000) : wrap64 (((a : Int) + k * b) % 4294967296 % many) = (((a + k * b) % 4294967296 % many : Nat) : Int) := by
  have e : ((a : Int) + k * b) % 4294967296 % many = (((a + k * b) % 4294967296 % many : Nat) : Int) := by rw [Int.natCast_emod, Int.natCast_emod, Int.natCast_add, Int.natCast_mul]; rfl
  have h := Nat.mod_lt ((a + k * b) % 4294967296) hm
  rw [e]
  exact IntWalk.wrap64_in _ (by omega)

set_option maxRecDepth 100000 in
set_option maxHeartbeats 1000000 in
theorem tell_none (l : List UInt8) (many : Int) (hm : many < 1) (fv : Value) (w : World) :
    Calls Tryz.prog 85 #[.string (B l), .int .i64 many, fv] w fun e w' => e = .returned (.tuple #[]) ∧ w = w' := by
  go_enter Tryz.func85, Tryz.ntmps85
  go_wp2
  refine bodyPost_ret (results_none rfl _ _ _) rfl ?_
  exact ⟨rfl, rfl⟩

set_option maxRecDepth 100000 in
set_option maxHeartbeats 1000000 in
theorem tell_any (l : List UInt8) (hl : l.length ≤ 1000000) (many : Nat) (hm : 0 < many) (hm2 : many ≤ 1000000000) (g : Nat) (he : ∀ args w, (callFunc g args).run Tryz.prog w = .ok (.enter g args) w) (caps : Array Value) (I : Nat → World → Prop) (Q : World → Prop) (w : World) (h : Tab w)
    (h0 : I 0 w) (h4 : ∀ w', I 4 w' → Q w')
    (hc : ∀ i, i < 4 → ∀ w', I i w' → Calls Tryz.prog g (#[.int .i64 (place l many i : Nat)] ++ caps) w' fun e w2 => ∃ b, e = .returned (.bool b) ∧ (b = true → I (i + 1) w2) ∧ (b = false → Q w2)) :
    Calls Tryz.prog 85 #[.string (B l), .int .i64 many, .func (.func g) #[] caps] w fun e w' => e = .returned (.tuple #[]) ∧ Q w' := by
  obtain ⟨a, ha⟩ : ∃ a, a = sumL l := ⟨_, rfl⟩
  obtain ⟨b, hb⟩ : ∃ b, b = more (sumL l) [1] := ⟨_, rfl⟩
  have hs : a < 4294967296 := by rw [ha]; exact more_lt _ _
  have hs2 : b < 4294967296 := by rw [hb]; exact more_lt _ _
  have hpl : ∀ i, place l many i = ((a + i * b) % 4294967296) % many := fun i => by rw [ha, hb]; rfl
  have hsum := sum_any l hl w h
  rw [← ha] at hsum
  have hmore := more_any a hs [1] (by simp) w h
  rw [show more a [1] = b by rw [ha, hb]] at hmore
  have HP := Lib.hid hpl
  clear hpl ha hb
  have HC := Lib.hid hc
  have HM := Lib.hid hmore
  have HS := Lib.hid hsum
  clear hc hmore hsum
  go_enter Tryz.func85, Tryz.ntmps85
  go_wp2_with fail
  refine HS.out.mono ?_
  rintro e w1 ⟨rfl, rfl⟩
  go_wp2_with fail
  refine HM.out.mono ?_
  rintro e w1 ⟨rfl, rfl⟩
  go_wp2_with fail
  go_loopw [16] (fun i wr => ∃ k : Nat, k ≤ 4 ∧ i = .int .u32 k ∧ I k wr) (fun i _ => 4 - (intOf i).toNat)
  case atStart => exact ⟨0, Nat.zero_le _, rfl, h0⟩
  case round =>
    obtain ⟨k, hk, rfl, hi⟩ := hrel
    by_cases hlt : k < 4
    · go_wp2_with fail
      have hq : wrap64 (((a : Int) + k * b) % 4294967296 % many) = ((place l many k : Nat) : Int) := by
        rw [HP.out]
        exact place_cast a b k many hm hm2
      rw [hq]
      refine (HC.out k hlt wr hi).mono ?_
      rintro e w2 ⟨b2, rfl, ht, hf⟩
      cases b2
      · have hQ := hf rfl
        clear ht hf
        go_wp2
        refine bodyPost_ret (results_none rfl _ _ _) rfl ?_
        exact ⟨rfl, hQ⟩
      · have hI := ht rfl
        clear ht hf
        go_wp2
        go_roundw
        case rel => exact ⟨k + 1, by omega, by go_num, hI⟩
        case measure => simp [intOf]; omega
    · obtain rfl : k = 4 := by omega
      go_wp2
      refine bodyPost_end (results_none rfl _ _ _) rfl ?_
      exact ⟨rfl, h4 _ hi⟩
end Go.Proofs.YtlmlopdakbbbjaaGreatDoor

namespace Go.Proofs.YtlmlopdakbbbjaaGreatDoor

/-- Bit i of these bytes. -/
def bitAt (f : List UInt8) (i : Nat) : Bool := (f.getD (i / 8) 0).toNat.testBit (i % 8)
/-- The byte with one bit more. -/
def orBit (b : UInt8) (k : Nat) : UInt8 := UInt8.ofNat (b.toNat ||| 2 ^ k)
def setBit (f : List UInt8) (p : Nat) : List UInt8 := f.set (p / 8) (orBit (f.getD (p / 8) 0) (p % 8))
def setAll (f : List UInt8) (ps : List Nat) : List UInt8 := ps.foldl setBit f

theorem or_lt (b : UInt8) (k : Nat) (h : k < 8) : b.toNat ||| 2 ^ k < 256 :=
  Nat.or_lt_two_pow (n := 8) b.toNat_lt (Nat.pow_lt_pow_right (by omega) h)
theorem orBit_toNat (b : UInt8) (k : Nat) (h : k < 8) : (orBit b k).toNat = b.toNat ||| 2 ^ k := by
  have := or_lt b k h
  unfold orBit
  rw [UInt8.toNat_ofNat']
  exact Nat.mod_eq_of_lt this
theorem setBit_length (f : List UInt8) (p : Nat) : (setBit f p).length = f.length := by simp [setBit]
theorem setAll_length (ps : List Nat) : ∀ f, (setAll f ps).length = f.length := by
  induction ps with
  | nil => intro f; rfl
  | cons p ps ih => intro f; exact (ih _).trans (setBit_length _ _)
theorem setAll_append (f : List UInt8) (ps qs : List Nat) : setAll f (ps ++ qs) = setAll (setAll f ps) qs := by simp [setAll]
theorem setAll_snoc (f : List UInt8) (ps : List Nat) (p : Nat) : setAll f (ps ++ [p]) = setBit (setAll f ps) p := by simp [setAll]

theorem bitAt_setBit (f : List UInt8) (p i : Nat) (hp : p < 8 * f.length) : bitAt (setBit f p) i = (bitAt f i || i == p) := by
  have hq : p / 8 < f.length := by omega
  unfold bitAt setBit
  by_cases h : i / 8 = p / 8
  · rw [h, List.getD_eq_getElem?_getD, List.getElem?_set_self hq]
    simp only [Option.getD_some]
    rw [orBit_toNat _ _ (by omega), Nat.testBit_or, Nat.testBit_two_pow]
    congr 1
    by_cases hm : p % 8 = i % 8
    · have : i = p := by omega
      simp [hm, this]
    · have : ¬ i = p := by omega
      simp [hm, this]
  · rw [List.getD_eq_getElem?_getD, List.getElem?_set_ne (by omega), ← List.getD_eq_getElem?_getD]
    have : ¬ i = p := by omega
    simp [this]
theorem bitAt_setAll (ps : List Nat) : ∀ (f : List UInt8) (_ : ∀ p ∈ ps, p < 8 * f.length) (i : Nat), bitAt (setAll f ps) i = (bitAt f i || ps.contains i) := by
  induction ps with
  | nil => intro f _ i; simp [setAll]
  | cons p ps ih =>
    intro f h i
    show bitAt (setAll (setBit f p) ps) i = _
    rw [ih _ (fun q hq => by rw [setBit_length]; exact h q (by simp [hq])), bitAt_setBit _ _ _ (h p (by simp)), List.contains_cons, Bool.or_assoc]
theorem bitAt_zero (n i : Nat) : bitAt (List.replicate n 0) i = false := by
  unfold bitAt
  rw [List.getD_eq_getElem?_getD, List.getElem?_replicate]
  split <;> simp
theorem byte_ext {a b : UInt8} (h : ∀ k, k < 8 → a.toNat.testBit k = b.toNat.testBit k) : a = b := by
  apply UInt8.toNat_inj.1
  apply Nat.eq_of_testBit_eq
  intro k
  by_cases hk : k < 8
  · exact h k hk
  · have h2 : (2 : Nat) ^ 8 ≤ 2 ^ k := Nat.pow_le_pow_right (by omega) (by omega)
    rw [Nat.testBit_lt_two_pow (Nat.lt_of_lt_of_le a.toNat_lt h2), Nat.testBit_lt_two_pow (Nat.lt_of_lt_of_le b.toNat_lt h2)]
theorem bits_ext {f g : List UInt8} (hl : f.length = g.length) (h : ∀ i, i < 8 * f.length → bitAt f i = bitAt g i) : f = g := by
  apply List.ext_getElem hl
  intro j h1 h2
  apply byte_ext
  intro k hk
  have := h (8 * j + k) (by omega)
  unfold bitAt at this
  rw [show (8 * j + k) / 8 = j by omega, show (8 * j + k) % 8 = k by omega] at this
  simpa [h1, h2] using this

/-- How many bits of a byte are set. -/
def pop (b : UInt8) : Nat := (List.range 8).countP b.toNat.testBit
def full (f : List UInt8) : Nat := (f.map pop).sum
theorem full_snoc (f : List UInt8) (b : UInt8) : full (f ++ [b]) = full f + pop b := by simp [full]
theorem pop_le (b : UInt8) : pop b ≤ 8 := Nat.le_trans List.countP_le_length (by simp)
theorem full_le (f : List UInt8) : full f ≤ 8 * f.length := by
  induction f with
  | nil => simp [full]
  | cons b f ih =>
    have := pop_le b
    simp only [full, List.map_cons, List.sum_cons, List.length_cons] at *
    omega
theorem range_add8 (n : Nat) : List.range (n + 8) = List.range n ++ (List.range 8).map (n + ·) := List.range_add
theorem bitAt_append_lt (f g : List UInt8) (i : Nat) (h : i < 8 * f.length) : bitAt (f ++ g) i = bitAt f i := by
  unfold bitAt
  rw [List.getD_eq_getElem?_getD, List.getElem?_append_left (by omega), ← List.getD_eq_getElem?_getD]
theorem full_take (f : List UInt8) : ∀ n, n ≤ f.length → full (f.take n) = (List.range (8 * n)).countP (bitAt f)
  | 0, _ => by simp [full]
  | n + 1, h => by
    have hn : n < f.length := by omega
    rw [List.take_succ_eq_append_getElem hn, full_snoc, full_take f n (by omega), Nat.mul_add, Nat.mul_one, range_add8, List.countP_append, List.countP_map]
    congr 1
    unfold pop
    apply List.countP_congr
    intro k hk
    have hk := List.mem_range.1 hk
    simp only [Function.comp, bitAt]
    rw [show (8 * n + k) / 8 = n by omega, show (8 * n + k) % 8 = k by omega]
    simp [hn]
theorem full_count (f : List UInt8) : full f = (List.range (8 * f.length)).countP (bitAt f) := by
  have := full_take f f.length (Nat.le_refl _)
  rwa [List.take_length] at this

/-- How many of the first bits are set. -/
def cnt (f : List UInt8) (m : Nat) : Nat := (List.range m).countP (bitAt f)
theorem cnt_succ (f : List UInt8) (m : Nat) : cnt f (m + 1) = cnt f m + (if bitAt f m then 1 else 0) := by
  unfold cnt
  rw [List.range_succ, List.countP_append, List.countP_singleton]
theorem cnt_le (f : List UInt8) (m : Nat) : cnt f m ≤ m := Nat.le_trans List.countP_le_length (by simp)

/-- The number whose bits are g i, g (i + 1) .., so many. -/
def val (g : Nat → Bool) : Nat → Nat → Nat
  | _, 0 => 0
  | i, c + 1 => 2 * val g (i + 1) c + (if g i then 1 else 0)
theorem val_lt (g : Nat → Bool) : ∀ c i, val g i c < 2 ^ c
  | 0, i => by simp [val]
  | c + 1, i => by
    have := val_lt g c (i + 1)
    simp only [val, Nat.pow_succ]
    split <;> omega
theorem val_bit (g : Nat → Bool) : ∀ c i k, k < c → (val g i c).testBit k = g (i + k)
  | c + 1, i, 0, _ => by
    simp only [val, Nat.testBit_zero, Nat.add_zero]
    cases g i <;> simp <;> omega
  | c + 1, i, k + 1, h => by
    rw [Nat.testBit_succ]
    have : val g i (c + 1) / 2 = val g (i + 1) c := by
      simp only [val]; split <;> omega
    rw [this, val_bit g c (i + 1) k (by omega)]
    congr 1
    omega
/-- The bytes of n of these bits, where those below m are not told yet, and the others of their bytes have gone down. -/
def stage (g : Nat → Bool) (n m : Nat) : List UInt8 := (List.range n).map fun j => UInt8.ofNat (val g (max m (8 * j)) (8 * j + 8 - max m (8 * j)))
theorem stage_length (g : Nat → Bool) (n m : Nat) : (stage g n m).length = n := by simp [stage]
theorem stage_at (g : Nat → Bool) (n m j : Nat) (h : j < n) : (stage g n m)[j]'(by simpa [stage_length] using h) = UInt8.ofNat (val g (max m (8 * j)) (8 * j + 8 - max m (8 * j))) := by simp [stage]
theorem stage_end (g : Nat → Bool) (n : Nat) : stage g n (8 * n) = List.replicate n 0 := by
  apply List.ext_getElem (by simp [stage_length])
  intro j h1 h2
  rw [stage_at _ _ _ _ (by simpa [stage_length] using h1), List.getElem_replicate, show 8 * j + 8 - max (8 * n) (8 * j) = 0 by rw [stage_length] at h1; omega]
  rfl
theorem stage_step (g : Nat → Bool) (n m : Nat) :
    stage g n m = (stage g n (m + 1)).set (m / 8) (UInt8.ofNat (2 * val g (m + 1) (7 - m % 8) + (if g m then 1 else 0))) := by
  apply List.ext_getElem (by simp [stage_length])
  intro j h1 h2
  have hj : j < n := by simpa [stage_length] using h1
  rw [stage_at _ _ _ _ hj]
  by_cases e : m / 8 = j
  · subst e
    rw [List.getElem_set_self]
    rw [show max m (8 * (m / 8)) = m by omega, show 8 * (m / 8) + 8 - m = (7 - m % 8) + 1 by omega]
    rfl
  · rw [List.getElem_set_ne e, stage_at _ _ _ _ hj]
    by_cases hlt : m < 8 * j
    · rw [show max m (8 * j) = 8 * j by omega, show max (m + 1) (8 * j) = 8 * j by omega]
    · rw [show 8 * j + 8 - max m (8 * j) = 0 by omega, show 8 * j + 8 - max (m + 1) (8 * j) = 0 by omega]
      rfl
theorem stage_now (g : Nat → Bool) (n m : Nat) (h : m < 8 * n) : ((stage g n (m + 1))[m / 8]'(by rw [stage_length]; omega)).toNat = val g (m + 1) (7 - m % 8) := by
  rw [stage_at _ _ _ _ (by omega)]
  have e1 : val g (max (m + 1) (8 * (m / 8))) (8 * (m / 8) + 8 - max (m + 1) (8 * (m / 8))) = val g (m + 1) (7 - m % 8) := by
    congr 1 <;> omega
  rw [e1]
  have h1 := val_lt g (7 - m % 8) (m + 1)
  have h2 : 2 ^ (7 - m % 8) ≤ 2 ^ 7 := Nat.pow_le_pow_right (by omega) (by omega)
  simp
  omega
theorem val_small (g : Nat → Bool) (i m : Nat) : val g i (7 - m % 8) < 128 := by
  have h1 := val_lt g (7 - m % 8) i
  have h2 : 2 ^ (7 - m % 8) ≤ 2 ^ 7 := Nat.pow_le_pow_right (by omega) (by omega)
  omega
theorem bitAt_stage (g : Nat → Bool) (n i : Nat) (h : i < 8 * n) : bitAt (stage g n 0) i = g i := by
  unfold bitAt
  have hj : i / 8 < n := by omega
  rw [List.getD_eq_getElem?_getD, List.getElem?_eq_getElem (by rw [stage_length]; exact hj), Option.getD_some, stage_at _ _ _ _ hj]
  rw [show max 0 (8 * (i / 8)) = 8 * (i / 8) by omega, show 8 * (i / 8) + 8 - 8 * (i / 8) = 8 by omega]
  have h1 := val_lt g 8 (8 * (i / 8))
  rw [show (UInt8.ofNat (val g (8 * (i / 8)) 8)).toNat = val g (8 * (i / 8)) 8 by simp; omega]
  rw [val_bit g 8 _ _ (by omega)]
  congr 1
  omega
end Go.Proofs.YtlmlopdakbbbjaaGreatDoor

namespace Go.Proofs.YtlmlopdakbbbjaaGreatDoor
open Go.RowKit

theorem bs_set (l : List UInt8) (i : Nat) (b : UInt8) : bs (l.set i b) = (bs l).set i (.int .u8 (b.toNat : Int)) := by simp [bs, List.map_set]
theorem bs_at (l : List UInt8) (i : Nat) (h : i < l.length) : (bs l)[i]? = some (.int .u8 (l[i].toNat : Int)) := by simp [bs, h]
/-- string(v), v a slice whose cells are these bytes. -/
theorem run_strAt {w : World} {g cap : Nat} (l : List UInt8) (h : ∀ j u, (bs l)[j]? = some u → w.cell? (Addr.add ⟨g, 0, none⟩ j) = some u) :
    (convert 56 9 (.slice (some ⟨g, 0, none⟩) l.length cap)).run Tryz.prog w = .ok (.string (B l)) w := by
  rw [run_convert_bytes_string w _ _ _ _ _ _ Tryz.underlying56 Tryz.underlying5 Tryz.underlying9]
  rw [run_bytesToString w ⟨g, 0, none⟩ l.length cap (l.map fun b => (b.toNat : Int)) ?_]
  · rw [fold_push]
    show Result.ok (Value.string ⟨#[] ++ l.toArray⟩) w = _
    rw [Array.empty_append]
  · have h1 := run_loadCells_list (P := Tryz.prog) w ⟨g, 0, none⟩ (bs l) h
    rw [bs_length] at h1
    rw [h1]
    simp [bs]
/-- A block that holds these bytes. -/
def Row (w : World) (g : Nat) (l : List UInt8) : Prop := w.heap[g]? = some (.cells (bs l).toArray 5 (0, 0))
theorem Row.cell {w : World} {g : Nat} {l : List UInt8} (h : Row w g l) (i : Nat) (hi : i < l.length) : w.cell? ⟨g, i, none⟩ = some (.int .u8 (l[i].toNat : Int)) := by
  rw [cell_of_row w g i _ _ _ h]
  simpa using bs_at l i hi
theorem Row.free {w : World} {g : Nat} {l : List UInt8} (h : Row w g l) (i : Nat) : w.frozen? ⟨g, i, none⟩ = false := by simp [World.frozen?, show w.heap[g]? = _ from h]
theorem Row.set {w : World} {g : Nat} {l : List UInt8} (h : Row w g l) (i : Nat) (b : UInt8) : Row (w.setCell ⟨g, i, none⟩ (.int .u8 (b.toNat : Int))) g (l.set i b) := by
  have := heap_setCell_same w g i _ _ (.int .u8 (b.toNat : Int)) h
  unfold Row
  rw [this, bs_set]
  simp
theorem Row.str {w : World} {g cap : Nat} {l : List UInt8} (h : Row w g l) : (convert 56 9 (.slice (some ⟨g, 0, none⟩) l.length cap)).run Tryz.prog w = .ok (.string (B l)) w := by
  refine run_strAt l fun j u hu => ?_
  rw [Addr.add_lit, Nat.zero_add, cell_of_row w g j _ _ _ h]
  simpa using hu
/-- make([]byte, n). -/
theorem made (N : Nat) (hN : N ≤ 100000) (w : World) : (Instr.makeSlice 56 (.int .i64 N) (.int .i64 N)).run Tryz.prog w = .ok (.slice (some ⟨w.heap.size, 0, none⟩) N N) (w.alloc (.cells (bs (List.replicate N 0)).toArray 5)) := by
  obtain ⟨i0, hi, hz0, hz1, hz2⟩ := info_parts Tryz.info5
  have hr := run_make (P := Tryz.prog) w 56 5 i0 (.int .u8 0) Tryz.underlying56 hi hz0 .i64 .i64 N N (by omega) (by omega) (by rw [hz2]; omega) (by omega)
  rw [hr, Int.toNat_natCast]
  have e : madeCells (Value.int IntKind.u8 0).cells (N * i0.size) = (bs (List.replicate N 0)).toArray := by
    rw [hz1, Nat.mul_one]
    apply Array.ext_getElem?
    intro j
    by_cases hj : j < N
    · simp [madeCells, bs, hj, Value.cells, Nat.mod_one]
    · simp [madeCells, bs, hj, Value.cells, Nat.mod_one]
  rw [e]

theorem cell_below {n : Nat} {w W : World} {b o : Nat} {v : Value} (h : w.cell? ⟨b, o, none⟩ = some v) (k : Below n w W) (hb : b < n) : W.cell? ⟨b, o, none⟩ = some v := by
  rw [k.cell (p := ⟨b, o, none⟩) hb]; exact h

end Go.Proofs.YtlmlopdakbbbjaaGreatDoor

namespace Go.Proofs.YtlmlopdakbbbjaaGreatDoor
open Go.RowKit

/-- Whether all places of a name are set in a filter. -/
def mayTo (f l : List UInt8) (i : Nat) : Bool := (List.range i).all fun j => bitAt f (place l (8 * f.length) j)
def mayL (f l : List UInt8) : Bool := f.isEmpty || mayTo f l 4
theorem mayTo_succ (f l : List UInt8) (i : Nat) : mayTo f l (i + 1) = (mayTo f l i && bitAt f (place l (8 * f.length) i)) := by
  unfold mayTo
  rw [List.range_succ, List.all_append]
  simp
theorem mayTo_false (f l : List UInt8) (i : Nat) (hi : i < 4) (h : bitAt f (place l (8 * f.length) i) = false) : mayTo f l 4 = false := by
  unfold mayTo
  rw [List.all_eq_false]
  exact ⟨i, List.mem_range.2 hi, by simp [h]⟩

theorem pow_cast (x k : Nat) : ((x : Int) / 2 ^ k) = ((x / 2 ^ k : Nat) : Int) := by
  rw [Int.natCast_ediv, Int.natCast_pow]; rfl
theorem and_one (a : Nat) (ha : a < 256) : bits BinOp.and IntKind.u8 (a : Int) 1 = ((a % 2 : Nat) : Int) := by
  show IntKind.u8.wrap ((BitVec.ofInt 8 (a : Int) &&& BitVec.ofInt 8 1).toNat : Int) = _
  rw [BitVec.toNat_and, BitVec.ofInt_natCast, BitVec.toNat_ofNat, show (BitVec.ofInt 8 1).toNat = 1 from rfl, Nat.mod_eq_of_lt (by omega), Nat.and_one_is_mod, IntKind.wrap_u8]
  omega
theorem bit_and (x : UInt8) (k : Nat) : (bits BinOp.and IntKind.u8 ((x.toNat : Int) / 2 ^ k) 1 == 1) = x.toNat.testBit k := by
  have h := x.toNat_lt
  have h2 : x.toNat / 2 ^ k ≤ x.toNat := Nat.div_le_self _ _
  rw [pow_cast, and_one _ (by omega), Nat.testBit_eq_decide_div_mod_eq]
  by_cases hb : x.toNat / 2 ^ k % 2 = 1
  · simp [hb]
  · have : x.toNat / 2 ^ k % 2 = 0 := by omega
    simp [this]
theorem bitAt_at (f : List UInt8) (p : Nat) (h : p / 8 < f.length) : bitAt f p = (f[p / 8]).toNat.testBit (p % 8) := by
  unfold bitAt
  rw [List.getD_eq_getElem?_getD, List.getElem?_eq_getElem h, Option.getD_some]

set_option maxRecDepth 100000 in
set_option maxHeartbeats 1000000 in
theorem may1_any (f : List UInt8) (hf : f.length ≤ 100000) (p : Nat) (hp : p < 8 * f.length) (F A : Nat) (b0 : Bool) (w : World) (hF : w.heap[F]? = some (.cells #[.string (B f)] 9 (0, 0))) (hA : w.heap[A]? = some (.cells #[.bool b0] 4 (0, 0))) :
    Calls Tryz.prog 93 #[.int .i64 p, .pointer (some ⟨F, 0, none⟩), .pointer (some ⟨A, 0, none⟩)] w fun e w' => e = .returned (.bool (bitAt f p)) ∧ w' = w.setCell ⟨A, 0, none⟩ (.bool (bitAt f p)) := by
  have c1 := cell_of_one hF
  have c2 := cell_of_one hA
  have c3 := free_of_one hA
  have hq : p / 8 < f.length := by omega
  go_enter Tryz.func93, Tryz.ntmps93
  have HB := Lib.hid (show (bits BinOp.and IntKind.u8 (((B f)[p / 8]'(by simpa [ByteArray.size] using hq)).toNat / 2 ^ (p % 8) : Int) 1 == 1) = bitAt f p by rw [bit_and, bitAt_at f p hq]; rfl)
  go_wp2
  go_ret
  rw [HB.out]
  exact ⟨rfl, rfl⟩

theorem tell_may (f l : List UInt8) (hf : f.length ≤ 100000) (hl : l.length ≤ 100000) (w w0 : World) (F A : Nat) (h : Tab w) (hFA : F ≠ A) (hs : w0.heap.size ≤ A) (hF : w.heap[F]? = some (.cells #[.string (B f)] 9 (0, 0))) (hA : w.heap[A]? = some (.cells #[.bool true] 4 (0, 0))) (hb : Old w0 w) :
    Calls Tryz.prog 85 #[.string (B l), .int .i64 (8 * (f.length : Int)), .func (.func 93) #[] #[.pointer (some ⟨F, 0, none⟩), .pointer (some ⟨A, 0, none⟩)]] w fun e w' => e = .returned (.tuple #[]) ∧ (w'.heap[A]? = some (.cells #[.bool (mayL f l)] 4 (0, 0)) ∧ Old w0 w') := by
  by_cases h0 : f.length = 0
  · refine (tell_none l _ (by omega) _ w).mono ?_
    rintro e w' ⟨rfl, rfl⟩
    refine ⟨rfl, ?_, hb⟩
    have : f = [] := List.eq_nil_of_length_eq_zero h0
    subst this
    exact hA
  · have e8 : (8 * (f.length : Int)) = ((8 * f.length : Nat) : Int) := by omega
    rw [e8]
    have hne : f.isEmpty = false := by cases f <;> simp at h0 ⊢
    refine tell_any l (by omega) (8 * f.length) (by omega) (by omega) 93 (enters_of Tryz.func93 (by kernel_rfl) rfl) _
      (fun i w' => w'.heap[F]? = some (.cells #[.string (B f)] 9 (0, 0)) ∧ w'.heap[A]? = some (.cells #[.bool true] 4 (0, 0)) ∧ mayTo f l i = true ∧ Old w0 w')
      (fun w' => w'.heap[A]? = some (.cells #[.bool (mayL f l)] 4 (0, 0)) ∧ Old w0 w') w h ⟨hF, hA, rfl, hb⟩ ?_ ?_
    · rintro w' ⟨h1, h2, h3, h4⟩
      unfold mayL
      rw [h3, hne]
      exact ⟨h2, h4⟩
    · rintro i hi w' ⟨h1, h2, h3, h4⟩
      refine (may1_any f hf (place l (8 * f.length) i) (place_lt _ _ _ (by omega)) F A true w' h1 h2).mono ?_
      rintro e w2 ⟨rfl, rfl⟩
      refine ⟨_, rfl, fun hb => ?_, fun hb => ?_⟩
      · rw [hb]
        exact ⟨by rw [heap_setCell_other _ _ _ _ hFA]; exact h1, one_setCell h2, by rw [mayTo_succ, h3, hb]; rfl, h4.st hs _⟩
      · rw [hb]
        refine ⟨?_, h4.st hs _⟩
        unfold mayL
        rw [mayTo_false f l i hi hb, hne]
        exact one_setCell h2

set_option maxRecDepth 100000 in
set_option maxHeartbeats 1000000 in
theorem b_may_any (f l : List UInt8) (hf : f.length ≤ 100000) (hl : l.length ≤ 100000) (w : World) (h : Tab w) :
    Calls Tryz.prog 71 #[.string (B f), .string (B l)] w fun e w' => e = .returned (.bool (mayL f l)) ∧ Old w w' := by
  have hmf : ∀ (fn : Fn) (first cap : Array Value) (w : World), (Instr.makeFunc fn first cap).run Tryz.prog w = .ok (.func fn first cap) w := fun _ _ _ _ => rfl
  go_enter Tryz.func71, Tryz.ntmps71
  go_wp2_with fail
  refine (tell_may f l hf hl _ w _ _ ((h.al _).al _) (by omega) (by omega) ?_ ?_ ((old_alloc _ _).al _)).mono ?_
  · rw [Below.heap_alloc _ _ _ (by simp)]
    exact heap_alloc_new w _
  · simpa using heap_alloc_new (w.alloc (.cells #[.string (B f)] 9)) (.cells #[.bool true] 4)
  rintro e w1 ⟨rfl, h1, h2⟩
  have c1 := cell_of_one h1
  go_wp2
  go_ret
  exact ⟨rfl, h2⟩
end Go.Proofs.YtlmlopdakbbbjaaGreatDoor

namespace Go.Proofs.YtlmlopdakbbbjaaGreatDoor
open Go.RowKit

theorem byte_getD (D : ByteArray) (n : Nat) (h : n < D.size) : (D[n]'h) = D.data.toList.getD n 0 := by
  have h2 : n < D.data.size := h
  rw [List.getD_eq_getElem?_getD, List.getElem?_eq_getElem (by simpa using h2)]
  simp
  rfl

theorem wrap64_byte (x : UInt8) : wrap64 (x.toNat : Int) = (x.toNat : Int) := IntWalk.wrap64_in _ (by have := x.toNat_lt; omega)

end Go.Proofs.YtlmlopdakbbbjaaGreatDoor

namespace Go.Proofs.YtlmlopdakbbbjaaGreatDoor
open Go.RowKit

theorem Tryz.info3 : (Tryz.prog.info? 3).map (fun i => (i.zero, i.size, i.bytes)) = some (some (.int .i64 0), 1, 8) := by kernel_rfl
/-- Numbers as cells. -/
def ns (l : List Nat) : List Value := l.map fun (n : Nat) => .int .i64 (n : Int)
theorem ns_length (l : List Nat) : (ns l).length = l.length := by simp [ns]
theorem ns_append (l m : List Nat) : ns (l ++ m) = ns l ++ ns m := by simp [ns]
/-- v is a slice of the call's own, from block base on, that holds just these numbers. -/
def Ints (w : World) (base : Nat) (v : Value) (l : List Nat) : Prop := w.ownsRow base 3 1 v l.length (ns l)
theorem Ints.nil (w : World) (base : Nat) : Ints w base (.slice none 0 0) [] := World.ownsRow_nil _ _ _ _
theorem Ints.alloc {w : World} {base : Nat} {v : Value} {l : List Nat} (h : Ints w base v l) (o : Obj) : Ints (w.alloc o) base v l := World.ownsRow.alloc h o
theorem Ints.set {w : World} {base : Nat} {v : Value} {l : List Nat} (h : Ints w base v l) {a : Addr} (ha : a.block < base) (u : Value) : Ints (w.setCell a u) base v l := ownsRow_setCell_below h ha u

/-- append(v, x). -/
theorem wp_app1 {ops : Array Oper} {rest : List Oper} {o : Oper} {a : Act} {Q : Exit → Act → World → Prop} {w : World} (hgd : o.guard = none) (s x : Operand)
    (ho : o.op = .call { callee := .builtin .append, args := #[s, x], argTypes := #[102, 102] })
    {base : Nat} {v : Value} {l : List Nat} (hs : a.eval s = v) (hown : Ints w base v l) (n g : Nat) (hx : a.eval x = .slice (some ⟨g, 0, none⟩) 1 1)
    (hnews : w.heap[g]? = some (.cells #[.int .i64 (n : Int)] 3 (0, 0))) (hlen : l.length ≤ 100000) (hbase : base ≤ w.heap.size)
    (h : ∀ g' c' w', Ints w' base (.slice (some ⟨g', 0, none⟩) (l.length + 1) c') (l ++ [n]) → Below base w w' → base ≤ w'.heap.size → wpList Tryz.prog ops Q rest (a.put o.dst (.slice (some ⟨g', 0, none⟩) (l.length + 1) c')) w') : wpList Tryz.prog ops Q (o :: rest) a w := by
  obtain ⟨i0, hi, hz0, hz1, hz2⟩ := info_parts Tryz.info3
  refine wpList_append_own w hgd s x 102 ho base 3 i0 (.int .i64 0) 1 8 Tryz.underlying102 hi hz0 hz1 hz2 rfl (by decide) v l.length (ns l) hs hown ⟨g, 0, none⟩ 1 1 [.int .i64 (n : Int)] hx rfl ?_ (fun u hu => by simp at hu; subst hu; rfl) (by unfold maxLen; omega) (by omega) hbase ?_
  · intro j u hu
    have h1 := cell_of_row w g j _ _ _ hnews
    rw [Addr.add_lit, Nat.zero_add, h1]
    simpa using hu
  · intro v' w' h2 h3 _
    have h4 := h2.2
    rcases h4 with ⟨_, hn⟩ | ⟨g', cap, cur, rfl, _⟩
    · simp at hn
    refine h g' cap w' ?_ ((Below.refl base w).grown h3 hbase (fun k hk => (World.ownsRow.lt hown k hk).1)) (Nat.le_trans hbase h3.size)
    unfold Ints
    rw [ns_append, List.length_append]
    exact h2

/-- The places of a name. -/
def places (l : List UInt8) (many : Nat) : List Nat := if many = 0 then [] else (List.range 4).map (place l many)
theorem places_take (l : List UInt8) (many i : Nat) (hi : i < 4) : ((List.range 4).map (place l many)).take (i + 1) = ((List.range 4).map (place l many)).take i ++ [place l many i] := by
  rw [List.take_succ_eq_append_getElem (by simpa using hi)]
  simp
end Go.Proofs.YtlmlopdakbbbjaaGreatDoor

namespace Go.Proofs.YtlmlopdakbbbjaaGreatDoor
open Go.RowKit

set_option maxRecDepth 100000 in
set_option maxHeartbeats 1000000 in
theorem bytesFor_any (n : Nat) (hn : n ≤ 1000000) (w : World) :
    Calls Tryz.prog 83 #[.int .i64 (n : Int)] w fun e w' => e = .returned (.int .i64 (max 8 ((n + 7) / 8) : Nat)) ∧ w = w' := by
  go_enter Tryz.func83, Tryz.ntmps83
  go_wp2
  all_goals (go_ret; refine ⟨ret_int ?_, rfl⟩; omega)

theorem or_bit (b : UInt8) (k : Nat) (hk : k < 8) : bits BinOp.or IntKind.u8 (b.toNat : Int) (2 ^ k % 256) = ((orBit b k).toNat : Int) := by
  have h1 : (2 : Nat) ^ k < 256 := Nat.pow_lt_pow_right (m := k) (n := 8) (by omega) hk
  have e : ((2 : Int) ^ k % 256) = ((2 ^ k : Nat) : Int) := by
    rw [Int.natCast_pow, show ((2 : Nat) : Int) = 2 from rfl]
    apply Int.emod_eq_of_lt
    · exact Int.pow_nonneg (by decide)
    · rw [show (2 : Int) ^ k = ((2 ^ k : Nat) : Int) by rw [Int.natCast_pow]; rfl]; omega
  have hb := b.toNat_lt
  have ho := or_lt b k hk
  rw [e, orBit_toNat _ _ hk]
  show IntKind.u8.wrap ((BitVec.ofInt 8 (b.toNat : Int) ||| BitVec.ofInt 8 ((2 ^ k : Nat) : Int)).toNat : Int) = _
  rw [BitVec.toNat_or, BitVec.ofInt_natCast, BitVec.ofInt_natCast, BitVec.toNat_ofNat, BitVec.toNat_ofNat, Nat.mod_eq_of_lt (by omega), Nat.mod_eq_of_lt (by omega), IntKind.wrap_u8]
  omega

set_option maxRecDepth 100000 in
set_option maxHeartbeats 1000000 in
theorem make1_any (f : List UInt8) (hf : f.length ≤ 100000) (p : Nat) (hp : p < 8 * f.length) (F G : Nat) (w : World) (hG : w.heap[G]? = some (.cells #[.slice (some ⟨F, 0, none⟩) f.length f.length] 56 (0, 0))) (hF : Row w F f) (hFG : G ≠ F) :
    Calls Tryz.prog 84 #[.int .i64 p, .pointer (some ⟨G, 0, none⟩)] w fun e w' => e = .returned (.bool true) ∧ w'.heap[G]? = some (.cells #[.slice (some ⟨F, 0, none⟩) f.length f.length] 56 (0, 0)) ∧ Row w' F (setBit f p) ∧ Below F w w' := by
  have hq : p / 8 < f.length := by omega
  have c1 := cell_of_one hG
  have c2 := hF.cell (p / 8) hq
  have c3 := hF.free (p / 8)
  have HO := Lib.hid (or_bit f[p / 8] (p % 8) (by omega))
  have HE := Lib.hid (show setBit f p = f.set (p / 8) (orBit f[p / 8] (p % 8)) by unfold setBit; rw [List.getD_eq_getElem?_getD, List.getElem?_eq_getElem hq, Option.getD_some])
  go_enter Tryz.func84, Tryz.ntmps84
  go_wp2
  go_region
  go_wp2
  go_ret
  rw [HO.out, HE.out]
  refine ⟨rfl, ?_, hF.set _ _, ((Below.refl F w).setCell (Nat.le_refl _) _).drew⟩
  show (w.setCell _ _).heap[G]? = _
  rw [heap_setCell_other _ _ _ _ hFG]
  exact hG

theorem tell_set (f l : List UInt8) (hf : f.length ≤ 100000) (hl : l.length ≤ 100000) (w : World) (F G : Nat) (h : Tab w) (hFG : G ≠ F) (hf0 : 0 < f.length) (hG : w.heap[G]? = some (.cells #[.slice (some ⟨F, 0, none⟩) f.length f.length] 56 (0, 0))) (hF : Row w F f) :
    Calls Tryz.prog 85 #[.string (B l), .int .i64 (8 * (f.length : Int)), .func (.func 84) #[] #[.pointer (some ⟨G, 0, none⟩)]] w fun e w' => e = .returned (.tuple #[]) ∧ (w'.heap[G]? = some (.cells #[.slice (some ⟨F, 0, none⟩) f.length f.length] 56 (0, 0)) ∧ Row w' F (setAll f (places l (8 * f.length))) ∧ Below F w w') := by
  have e8 : (8 * (f.length : Int)) = ((8 * f.length : Nat) : Int) := by omega
  rw [e8]
  unfold places
  rw [if_neg (by omega)]
  refine tell_any l (by omega) (8 * f.length) (by omega) (by omega) 84 (enters_of Tryz.func84 (by kernel_rfl) rfl) _
    (fun i w' => w'.heap[G]? = some (.cells #[.slice (some ⟨F, 0, none⟩) f.length f.length] 56 (0, 0)) ∧ Row w' F (setAll f (((List.range 4).map (place l (8 * f.length))).take i)) ∧ Below F w w')
    (fun w' => w'.heap[G]? = some (.cells #[.slice (some ⟨F, 0, none⟩) f.length f.length] 56 (0, 0)) ∧ Row w' F (setAll f ((List.range 4).map (place l (8 * f.length)))) ∧ Below F w w') w h ⟨hG, hF, Below.refl _ _⟩ ?_ ?_
  · rintro w' ⟨h1, h2, h3⟩
    rw [List.take_of_length_le (by simp)] at h2
    exact ⟨h1, h2, h3⟩
  · rintro i hi w' ⟨h1, h2, h3⟩
    have hln := setAll_length (((List.range 4).map (place l (8 * f.length))).take i) f
    have := make1_any (setAll f (((List.range 4).map (place l (8 * f.length))).take i)) (by omega) (place l (8 * f.length) i) (by rw [hln]; exact place_lt _ _ _ (by omega)) F G w' (by rw [hln]; exact h1) h2 hFG
    refine this.mono ?_
    rintro e w2 ⟨rfl, h4, h5, h6⟩
    refine ⟨true, rfl, fun _ => ?_, fun hb => by cases hb⟩
    rw [hln] at h4
    rw [← setAll_snoc, ← places_take l _ i hi] at h5
    exact ⟨h4, h5, h3.trans h6⟩

/-- How many bytes a filter of so many names has. -/
def sizeL (k b : Nat) : Nat := max 8 ((k * b + 7) / 8)
/-- All places of all names. -/
def allP (names : List (List UInt8)) (many : Nat) : List Nat := names.flatMap fun l => places l many
/-- The filter of these names. -/
def makeL (names : List (List UInt8)) (b : Nat) : List UInt8 := setAll (List.replicate (sizeL names.length b) 0) (allP names (8 * sizeL names.length b))
theorem allP_snoc (names : List (List UInt8)) (k : Nat) (hk : k < names.length) (many : Nat) : allP (names.take (k + 1)) many = allP (names.take k) many ++ places names[k] many := by
  unfold allP
  rw [List.take_succ_eq_append_getElem hk, List.flatMap_append]
  simp
theorem sizeL_le (k b : Nat) (hk : k ≤ 2000) (hb : b ≤ 64) : 8 ≤ sizeL k b ∧ sizeL k b ≤ 16000 := by
  have : k * b ≤ 2000 * 64 := Nat.mul_le_mul hk hb
  unfold sizeL
  omega

set_option maxRecDepth 100000 in
set_option maxHeartbeats 1000000 in
theorem make_arg (v : Value) (b : Int) (hb : b < 1 ∨ 64 < b) (w : World) :
    Calls Tryz.prog 55 #[v, .int .i64 b] w fun e w' => e = .returned (.tuple #[.string (B []), .int .i64 1]) ∧ w = w' := by
  go_enter Tryz.func55, Tryz.ntmps55
  rcases hb with hb | hb
  · go_wp2
    go_ret2
    exact ⟨rfl, rfl⟩
  · go_wp2
    go_ret2
    exact ⟨rfl, rfl⟩

set_option maxRecDepth 100000 in
set_option maxHeartbeats 2000000 in
theorem make_any (names : List (List UInt8)) (A : Option Addr) (cap : Nat) (b : Nat) (hb : 1 ≤ b) (hb2 : b ≤ 64) (hn : names.length ≤ 2000) (hls : ∀ l ∈ names, l.length ≤ 100000) (w : World) (hS : Strs w A cap names) (h : Tab w) :
    Calls Tryz.prog 55 #[.slice A names.length cap, .int .i64 (b : Int)] w fun e w' => e = .returned (.tuple #[.string (B (makeL names b)), .int .i64 0]) ∧ Old w w' := by
  have hmf : ∀ (fn : Fn) (first cap : Array Value) (w : World), (Instr.makeFunc fn first cap).run Tryz.prog w = .ok (.func fn first cap) w := fun _ _ _ _ => rfl
  obtain ⟨m, hm⟩ : ∃ m, m = names.length * b := ⟨_, rfl⟩
  have hmI : (names.length : Int) * (b : Int) = (m : Int) := by rw [hm, Int.natCast_mul]
  have hm2 : m ≤ 128000 := by rw [hm]; exact Nat.mul_le_mul hn hb2
  obtain ⟨N, hN⟩ : ∃ N, N = sizeL names.length b := ⟨_, rfl⟩
  have hNm : max 8 ((m + 7) / 8) = N := by rw [hN, hm]; rfl
  have hN2 := sizeL_le names.length b hn hb2
  rw [← hN] at hN2
  have HM := Lib.hid (show makeL names b = setAll (List.replicate N 0) (allP names (8 * N)) by rw [hN]; rfl)
  have hmk := made N (by omega) w
  clear hN hm
  go_enter Tryz.func55, Tryz.ntmps55
  go_wp2_with fail
  refine (bytesFor_any m (by omega) _).mono ?_
  rintro e w1 ⟨rfl, rfl⟩
  rw [hNm]
  clear hNm
  go_wp2_with fail
  clear hmk
  go_loopw [28] (fun i wr => ∃ k : Nat, k ≤ names.length ∧ i = .int .i64 k ∧ wr.heap[w.heap.size + 1]? = some (.cells #[.slice (some ⟨w.heap.size, 0, none⟩) N N] 56 (0, 0)) ∧ Row wr w.heap.size (setAll (List.replicate N 0) (allP (names.take k) (8 * N))) ∧ Old w wr) (fun i _ => names.length - (intOf i).toNat)
  case atStart =>
    refine ⟨0, Nat.zero_le _, rfl, ?_, ?_, (old_alloc _ _).al _⟩
    · simpa using heap_alloc_new (w.alloc (.cells (bs (List.replicate N 0)).toArray 5)) (.cells #[.slice (some ⟨w.heap.size, 0, none⟩) N N] 56)
    · unfold Row
      rw [Below.heap_alloc _ _ _ (by simp)]
      exact heap_alloc_new w _
  case round =>
    obtain ⟨k, hk, rfl, h1, h2, h3⟩ := hrel
    have hfl := setAll_length (allP (names.take k) (8 * N)) (List.replicate N 0)
    rw [List.length_replicate] at hfl
    have c1 := cell_of_one h1
    have ht := h.old h3
    by_cases hlt : k < names.length
    · obtain ⟨hm1, bb, off, rfl, hcl⟩ := hS.at_ k hlt
      have hcl2 := cell_old hcl h3
      have hnl := hls _ (List.getElem_mem hlt)
      have HA := Lib.hid (allP_snoc names k hlt (8 * N))
      have HT := Lib.hid (tell_set (setAll (List.replicate N 0) (allP (names.take k) (8 * N))) names[k] (by omega) (by omega) wr w.heap.size (w.heap.size + 1) ht (by omega) (by omega) (by rw [hfl]; exact h1) h2)
      rw [hfl, ← setAll_append, ← HA.out] at HT
      clear h2 hfl hcl HA
      go_wp2_with fail
      refine HT.out.mono ?_
      rintro e w2 ⟨rfl, h4, h5, h6⟩
      go_wp2
      go_roundw
      case rel => exact ⟨k + 1, by omega, by go_num, h4, h5, Below.trans h3 h6⟩
      case measure => simp [intOf]; omega
    · have hcv := h2.str (cap := N)
      rw [hfl] at hcv
      rw [List.take_of_length_le (by omega), ← HM.out] at hcv
      go_wp2
      go_ret2
      exact ⟨rfl, h3⟩
end Go.Proofs.YtlmlopdakbbbjaaGreatDoor

namespace Go.Proofs.YtlmlopdakbbbjaaGreatDoor
open Go.RowKit

theorem small_size : sizeL 1 10 = 8 := by decide
theorem small_may : mayL (makeL [[97]] 10) [97] = true := by decide +kernel
theorem small_full : full (makeL [[97]] 10) = 4 := by decide +kernel
theorem makeL_length (names : List (List UInt8)) (b : Nat) : (makeL names b).length = sizeL names.length b := by
  unfold makeL
  rw [setAll_length, List.length_replicate]
theorem new_strs (w : World) (l : List UInt8) (hl : l.length ≤ 1000) : Strs (w.alloc (.cells #[.string (B l)] 9)) (some ⟨w.heap.size, 0, none⟩) 1 [l] := by
  refine ⟨Nat.le_refl _, fun i t ht => ?_⟩
  cases i with
  | succ i => simp at ht
  | zero =>
    simp at ht
    subst ht
    exact ⟨by unfold maxLen; omega, _, _, rfl, cell_of_one (heap_alloc_new w _)⟩

def boundL (names : List (List UInt8)) : Bool := (names.all fun l => decide (l.length ≤ 200)) && decide (names.length ≤ 100)
theorem boundL_false (names : List (List UInt8)) (k : Nat) (hk : k < names.length) (h : 200 < names[k].length) : boundL names = false := by
  unfold boundL
  rw [Bool.and_eq_false_iff]
  left
  rw [List.all_eq_false]
  exact ⟨_, List.getElem_mem hk, by simp; omega⟩
theorem boundL_of (names : List (List UInt8)) (h : ∀ i (hi : i < names.length), names[i].length ≤ 200) : boundL names = decide (names.length ≤ 100) := by
  unfold boundL
  rw [show (names.all fun l => decide (l.length ≤ 200)) = true from ?_, Bool.true_and]
  rw [List.all_eq_true]
  intro l hl
  obtain ⟨i, hi, rfl⟩ := List.getElem_of_mem hl
  simpa using h i hi
theorem boundL_get {names : List (List UInt8)} (h : boundL names = true) : names.length ≤ 100 ∧ ∀ l ∈ names, l.length ≤ 200 := by
  unfold boundL at h
  rw [Bool.and_eq_true, List.all_eq_true] at h
  exact ⟨by simpa using h.2, fun l hl => by simpa using h.1 l hl⟩

end Go.Proofs.YtlmlopdakbbbjaaGreatDoor

namespace Go.Proofs.YtlmlopdakbbbjaaGreatDoor

/-- How many of the first m numbers are among these. -/
def cntIn (m : Nat) (ps : List Nat) : Nat := (List.range m).countP fun i => ps.contains i
theorem cntIn_nil (m : Nat) : cntIn m [] = 0 := by
  unfold cntIn
  rw [List.countP_eq_zero]
  simp
theorem cntIn_succ (m : Nat) (ps : List Nat) : cntIn (m + 1) ps = cntIn m ps + (if ps.contains m then 1 else 0) := by
  unfold cntIn
  rw [List.range_succ, List.countP_append, List.countP_singleton]
theorem cntIn_above (m : Nat) (ps : List Nat) (p : Nat) (h : m ≤ p) : cntIn m (ps ++ [p]) = cntIn m ps := by
  unfold cntIn
  apply List.countP_congr
  intro i hi
  have := List.mem_range.1 hi
  have hne : ¬ i = p := by omega
  simp [hne]
theorem cntIn_snoc (m : Nat) (ps : List Nat) (p : Nat) (h : p < m) : cntIn m (ps ++ [p]) = cntIn m ps + (if ps.contains p then 0 else 1) := by
  induction m with
  | zero => omega
  | succ m ih =>
    rw [cntIn_succ, cntIn_succ]
    by_cases hp : p = m
    · subst hp
      rw [cntIn_above _ _ _ (Nat.le_refl _)]
      by_cases hc : p ∈ ps <;> simp [hc]
    · rw [ih (by omega)]
      have hne : ¬ m = p := fun e => hp e.symm
      by_cases hc : m ∈ ps <;> by_cases hd : p ∈ ps <;> simp [hc, hd, hne]
theorem cntIn_le (m : Nat) (ps : List Nat) : ∀ (k : Nat), k ≤ ps.length → (∀ p ∈ ps, p < m) → cntIn m (ps.take k) ≤ k
  | 0, _, _ => by simp [cntIn_nil]
  | k + 1, hk, h => by
    have := cntIn_le m ps k (by omega) h
    rw [List.take_succ_eq_append_getElem (by omega), cntIn_snoc _ _ _ (h _ (List.getElem_mem _))]
    split <;> omega

theorem allP_lt (names : List (List UInt8)) (many : Nat) : ∀ p ∈ allP names many, p < many := by
  intro p hp
  obtain ⟨l, _, hl⟩ := List.mem_flatMap.1 hp
  unfold places at hl
  split at hl
  · cases hl
  · obtain ⟨i, _, rfl⟩ := List.mem_map.1 hl
    exact place_lt _ _ _ (by omega)
theorem bitAt_make (names : List (List UInt8)) (b i : Nat) : bitAt (makeL names b) i = (allP names (8 * sizeL names.length b)).contains i := by
  unfold makeL
  rw [bitAt_setAll, bitAt_zero, Bool.false_or]
  intro p hp
  rw [List.length_replicate]
  exact allP_lt _ _ p hp
theorem full_make (names : List (List UInt8)) (b : Nat) : full (makeL names b) = cntIn (8 * sizeL names.length b) (allP names (8 * sizeL names.length b)) := by
  rw [full_count, makeL_length]
  unfold cntIn
  apply List.countP_congr
  intro i _
  rw [bitAt_make]
theorem sizeL_pos (k b : Nat) : 0 < sizeL k b := by unfold sizeL; omega
theorem allP_length (names : List (List UInt8)) (many : Nat) (h : 0 < many) : (allP names many).length = 4 * names.length := by
  unfold allP
  induction names with
  | nil => rfl
  | cons l names ih =>
    rw [List.flatMap_cons, List.length_append, ih, List.length_cons]
    unfold places
    rw [if_neg (by omega)]
    simp
    omega
theorem full_le4 (names : List (List UInt8)) (b : Nat) : full (makeL names b) ≤ 4 * names.length := by
  have hp := sizeL_pos names.length b
  rw [full_make, ← allP_length names (8 * sizeL names.length b) (by omega)]
  have := cntIn_le (8 * sizeL names.length b) (allP names (8 * sizeL names.length b)) _ (Nat.le_refl _) (allP_lt _ _)
  rwa [List.take_length] at this
/-- Of each name that a filter was made of it is told that it may be there. -/
theorem may_has (names : List (List UInt8)) (b : Nat) (l : List UInt8) (hl : l ∈ names) : mayL (makeL names b) l = true := by
  have hp := sizeL_pos names.length b
  unfold mayL
  rw [show mayTo (makeL names b) l 4 = true from ?_, Bool.or_true]
  unfold mayTo
  rw [List.all_eq_true]
  intro j hj
  rw [bitAt_make, makeL_length, List.contains_iff_mem]
  refine List.mem_flatMap.2 ⟨l, hl, ?_⟩
  unfold places
  rw [if_neg (by omega)]
  exact List.mem_map.2 ⟨j, hj, rfl⟩
/-- As many names, and the same ones: the same filter. -/
theorem make_same (names names' : List (List UInt8)) (b : Nat) (hl : names.length = names'.length) (hm : ∀ x, x ∈ names ↔ x ∈ names') : makeL names b = makeL names' b := by
  apply bits_ext (by rw [makeL_length, makeL_length, hl])
  intro i _
  rw [bitAt_make, bitAt_make, hl, Bool.eq_iff_iff, List.contains_iff_mem, List.contains_iff_mem]
  unfold allP
  rw [List.mem_flatMap, List.mem_flatMap]
  constructor
  · rintro ⟨a, h1, h2⟩; exact ⟨a, (hm a).1 h1, h2⟩
  · rintro ⟨a, h1, h2⟩; exact ⟨a, (hm a).2 h1, h2⟩
end Go.Proofs.YtlmlopdakbbbjaaGreatDoor

namespace Go.Proofs.YtlmlopdakbbbjaaGreatDoor
open Go.RowKit

theorem half (x k : Nat) : x / 2 ^ k / 2 = x / 2 ^ (k + 1) := by rw [Nat.pow_succ, Nat.div_div_eq_div_mul]

set_option maxRecDepth 100000 in
set_option maxHeartbeats 1000000 in
theorem rbit_any (f : List UInt8) (hf : f.length ≤ 100000) (p : Nat) (hp : p < 8 * f.length) (w : World) :
    Calls Tryz.prog 92 #[.string (B f), .int .i64 p] w fun e w' => e = .returned (.bool (bitAt f p)) ∧ w = w' := by
  have hq : p / 8 < f.length := by omega
  have HB := Lib.hid (bitAt_at f p hq)
  have hx : (B f)[p / 8]'(by simpa [ByteArray.size] using hq) = f[p / 8] := rfl
  have hx2 := f[p / 8].toNat_lt
  go_enter Tryz.func92, Tryz.ntmps92
  go_wp2_with fail
  generalize f[p / 8] = x at *
  go_loop [5, 6] (fun n i => ∃ k : Nat, k ≤ p % 8 ∧ i = .int .i64 k ∧ n = .int .i64 (x.toNat / 2 ^ k : Nat)) (fun _ i => 8 - (intOf i).toNat)
  case atStart => exact ⟨0, Nat.zero_le _, rfl, by simp⟩
  case round =>
    obtain ⟨k, hk, rfl, rfl⟩ := hrel
    have hle : x.toNat / 2 ^ k ≤ x.toNat := Nat.div_le_self _ _
    by_cases hlt : k < p % 8
    · have HH := Lib.hid (half x.toNat k)
      generalize x.toNat / 2 ^ k = y at *
      go_wp2
      go_round
      case rel => exact ⟨k + 1, by omega, by go_num, by rw [← HH.out]; go_num⟩
      case measure => simp [intOf]; omega
    · obtain rfl : k = p % 8 := by omega
      rw [Nat.testBit_eq_decide_div_mod_eq] at HB
      generalize x.toNat / 2 ^ (p % 8) = y at *
      go_wp2
      go_ret
      refine ⟨ret_bool ?_, rfl⟩
      rw [HB.out, Bool.eq_iff_iff, beq_iff_eq, decide_eq_true_iff]
      omega

theorem B_append (l m : List UInt8) : B l ++ B m = B (l ++ m) := by
  apply ByteArray.ext
  simp [B]
theorem sum_one (l : List UInt8) : sumL (l ++ [1]) = more (sumL l) [1] := more_append 0 l [1]
theorem ints_new (w : World) : Ints (w.alloc (.cells #[] 3)) w.heap.size (.slice (some ⟨w.heap.size, 0, none⟩) 0 0) [] :=
  World.ownsRow_made w #[] 0 (Nat.le_refl _) (by unfold maxLen; omega) rfl

set_option maxRecDepth 100000 in
set_option maxHeartbeats 1000000 in
theorem rbits_any (l : List UInt8) (hl : l.length ≤ 100000) (many : Nat) (hm : many ≤ 1000000000) (w : World) :
    Calls Tryz.prog 63 #[.string (B l), .int .i64 (many : Int)] w fun e w' => ∃ v, e = .returned v ∧ Ints w' w.heap.size v (places l many) ∧ Old w w' := by
  obtain ⟨a, ha⟩ : ∃ a, a = sumL l := ⟨_, rfl⟩
  obtain ⟨b, hb⟩ : ∃ b, b = more (sumL l) [1] := ⟨_, rfl⟩
  have hs : a < 4294967296 := by rw [ha]; exact more_lt _ _
  have hs2 : b < 4294967296 := by rw [hb]; exact more_lt _ _
  have HP := Lib.hid (show ∀ i, place l many i = ((a + i * b) % 4294967296) % many from fun i => by rw [ha, hb]; rfl)
  have H1 := Lib.hid (rsum_any l (by omega) (w.alloc (.cells #[] 3)))
  have H2 := Lib.hid (rsum_any (l ++ [1]) (by simp; omega) (w.alloc (.cells #[] 3)))
  rw [sum_one, ← hb] at H2
  rw [← ha] at H1
  clear ha hb
  have hcat : B l ++ B [1] = B (l ++ [1]) := B_append _ _
  have hroom : ¬ 9223372036854775807 < (l.length : Int) + 1 := by omega
  go_enter Tryz.func63, Tryz.ntmps63
  go_wp2_with fail
  refine H1.out.mono ?_
  rintro e w1 ⟨rfl, rfl⟩
  go_wp2_with fail
  refine H2.out.mono ?_
  rintro e w1 ⟨rfl, rfl⟩
  clear H1 H2 hcat hroom
  go_wp2_with fail
  go_loopw [5, 8] (fun v i wr => ∃ k : Nat, k ≤ 4 ∧ (many = 0 → k = 0) ∧ i = .int .u64 k ∧ Ints wr w.heap.size v (((List.range 4).map (place l many)).take k) ∧ Old w wr) (fun _ i _ => 4 - (intOf i).toNat)
  case atStart => exact ⟨0, Nat.zero_le _, fun _ => rfl, rfl, ints_new w, old_alloc _ _⟩
  case round =>
    obtain ⟨k, hk, hk0, rfl, ho, hold⟩ := hrel
    by_cases hlt : k < 4 ∧ 0 < many
    · obtain ⟨hlt, hm0⟩ := hlt
      obtain ⟨c, hc⟩ : ∃ c, c = k * b := ⟨_, rfl⟩
      have hcI : (k : Int) * (b : Int) = (c : Int) := by rw [hc, Int.natCast_mul]
      have hc4 : c ≤ 17179869184 := by rw [hc]; exact Nat.le_trans (Nat.mul_le_mul (show k ≤ 4 by omega) (show b ≤ 4294967296 by omega)) (by decide)
      have hq : wrap64 (((a : Int) + (c : Int)) % 4294967296 % (many : Int)) = ((place l many k : Nat) : Int) := by
        rw [HP.out k, ← place_cast a b k many hm0 hm, hcI]
      have HPL := Lib.hid (places_take l many k hlt)
      clear hc hk0
      generalize place l many k = p at *
      go_wp2_with (at_builtin; refine wp_app1 rfl _ _ rfl rfl (ho.alloc _) p wr.heap.size rfl (heap_alloc_new _ _) (by simp; omega) (by simp; have := hold.size; omega) ?_; intro g1 p1 w1 ho1 hbl1 hb1)
      go_roundw
      case rel =>
        have e : (List.take k (List.map (place l many) (List.range 4))).length = k := by simp; omega
        rw [e] at ho1
        exact ⟨k + 1, by omega, fun h => absurd h (by omega), by go_num, by rw [HPL.out]; exact ho1, Below.trans (hold.al _) hbl1⟩
      case measure => simp [intOf]; omega
    · have HE := Lib.hid (show ((List.range 4).map (place l many)).take k = places l many by
        unfold places
        by_cases hz : many = 0
        · rw [if_pos hz, hk0 hz]; rfl
        · rw [if_neg hz, List.take_of_length_le (by simp; omega)])
      rw [HE.out] at ho
      clear HE hk0
      by_cases hlt2 : k < 4
      · obtain rfl : many = 0 := by omega
        go_wp2
        go_ret
        exact ⟨_, rfl, ho, hold⟩
      · go_wp2
        go_ret
        exact ⟨_, rfl, ho, hold⟩
end Go.Proofs.YtlmlopdakbbbjaaGreatDoor

namespace Go.Proofs.YtlmlopdakbbbjaaGreatDoor
open Go.RowKit

/-- A slice at A of these numbers. -/
def IntsAt (w : World) (A : Option Addr) (l : List Nat) : Prop := ∀ (i : Nat) (n : Nat), l[i]? = some n → ∃ g, A = some ⟨g, 0, none⟩ ∧ w.cell? ⟨g, i, none⟩ = some (.int .i64 (n : Int))
theorem Ints.shape {w : World} {base : Nat} {v : Value} {l : List Nat} (h : Ints w base v l) : ∃ A cap, v = .slice A l.length cap ∧ IntsAt w A l := by
  have hcs := fun g hg => World.ownsRow.cells h (g := g) hg
  rcases h.2 with ⟨rfl, hn⟩ | ⟨g, cap, cur, rfl, _⟩
  · have : l = [] := List.eq_nil_of_length_eq_zero hn
    subst this
    exact ⟨none, 0, rfl, fun i n hi => by simp at hi⟩
  · refine ⟨_, cap, rfl, fun i n hi => ⟨g, rfl, ?_⟩⟩
    have := hcs g rfl i (.int .i64 (n : Int)) (by simp [ns, hi])
    rwa [Addr.add_lit, Nat.zero_add] at this
theorem IntsAt.at_ {w : World} {A : Option Addr} {l : List Nat} (h : IntsAt w A l) (i : Nat) (hi : i < l.length) : ∃ g, A = some ⟨g, 0, none⟩ ∧ w.cell? ⟨g, i, none⟩ = some (.int .i64 (l[i] : Nat)) := h i _ (List.getElem?_eq_getElem hi)
theorem IntsAt.old {w W : World} {A : Option Addr} {l : List Nat} (h : IntsAt w A l) (k : Old w W) : IntsAt W A l := by
  intro i n hi
  obtain ⟨g, rfl, h2⟩ := h i n hi
  exact ⟨g, rfl, cell_old h2 k⟩
theorem places_length (l : List UInt8) (many : Nat) (h : 0 < many) : (places l many).length = 4 := by
  unfold places
  rw [if_neg (by omega)]
  simp
theorem places_at (l : List UInt8) (many : Nat) (h : 0 < many) (i : Nat) (hi : i < 4) : (places l many)[i]'(by rw [places_length l many h]; exact hi) = place l many i := by
  unfold places
  simp [show ¬ many = 0 by omega]
theorem places_lt (l : List UInt8) (many : Nat) : ∀ p ∈ places l many, p < many := by
  intro p hp
  unfold places at hp
  split at hp
  · cases hp
  · obtain ⟨i, _, rfl⟩ := List.mem_map.1 hp
    exact place_lt _ _ _ (by omega)

set_option maxRecDepth 100000 in
set_option maxHeartbeats 1000000 in
theorem b_rmay_any (f l : List UInt8) (hf : f.length ≤ 100000) (hl : l.length ≤ 100000) (w : World) :
    Calls Tryz.prog 70 #[.string (B f), .string (B l)] w fun e w' => e = .returned (.bool (mayL f l)) ∧ Old w w' := by
  by_cases h0 : f = []
  · subst h0
    go_enter Tryz.func70, Tryz.ntmps70
    go_wp2
    go_ret
    exact ⟨rfl, Old.re _⟩
  · have hpos : 0 < f.length := List.length_pos_iff.2 h0
    have hne : f.isEmpty = false := by cases f <;> simp at h0 ⊢
    have HM := Lib.hid (show mayL f l = mayTo f l 4 by unfold mayL; rw [hne, Bool.false_or])
    have e8 : (8 * (f.length : Int)) = ((8 * f.length : Nat) : Int) := by omega
    have HB := Lib.hid (rbits_any l hl (8 * f.length) (by omega) w)
    rw [← e8] at HB
    clear e8
    have hbe : (f == []) = false := by cases f <;> simp at h0 ⊢
    go_enter Tryz.func70, Tryz.ntmps70
    go_wp2_with fail
    refine HB.out.mono ?_
    rintro e w1 ⟨v, rfl, ho, hold⟩
    obtain ⟨A, cap, rfl, hA⟩ := ho.shape
    have hpl := places_length l (8 * f.length) (by omega)
    rw [hpl]
    clear HB ho
    go_wp2_with fail
    go_loop [6] (fun i => ∃ k : Nat, k ≤ 4 ∧ i = .int .i64 k ∧ mayTo f l k = true) (fun i => 4 - (intOf i).toNat)
    case atStart => exact ⟨0, Nat.zero_le _, rfl, rfl⟩
    case round =>
      obtain ⟨k, hk, rfl, hmt⟩ := hrel
      by_cases hlt : k < 4
      · obtain ⟨g, rfl, hc⟩ := hA.at_ k (by omega)
        rw [places_at l _ (by omega) k hlt] at hc
        have HS := Lib.hid (mayTo_succ f l k)
        have HN := Lib.hid (mayTo_false f l k hlt)
        rw [hmt, Bool.true_and] at HS
        have hpp := place_lt l (8 * f.length) k (by omega)
        clear hmt
        generalize place l (8 * f.length) k = p at *
        go_wp2_with fail
        refine (rbit_any f hf p hpp _).mono ?_
        rintro e w2 ⟨rfl, rfl⟩
        generalize bitAt f p = b at *
        cases b
        · have HN2 := Lib.hid (HN.out rfl)
          clear HN HS
          go_wp2
          go_ret
          refine ⟨ret_bool ?_, hold⟩
          rw [HM.out, HN2.out]
        · have HS2 := Lib.hid HS.out
          clear HN HS
          go_wp2
          go_round
          case rel => exact ⟨k + 1, by omega, by go_num, HS2.out⟩
          case measure => simp [intOf]; omega
      · obtain rfl : k = 4 := by omega
        have HS2 := Lib.hid hmt
        clear hmt
        go_wp2
        go_ret
        refine ⟨ret_bool ?_, hold⟩
        rw [HM.out, HS2.out]
end Go.Proofs.YtlmlopdakbbbjaaGreatDoor

namespace Go.Proofs.YtlmlopdakbbbjaaGreatDoor
open Go.RowKit

/-- Bools as cells. -/
def bls (l : List Bool) : List Value := l.map Value.bool
theorem Tryz.info4 : (Tryz.prog.info? 4).map (fun i => (i.zero, i.size, i.bytes)) = some (some (.bool false), 1, 1) := by kernel_rfl
/-- Which of the first n numbers are among these. -/
def b_marks (n : Nat) (ps : List Nat) : List Bool := (List.range n).map fun i => ps.contains i
theorem marks_length (n : Nat) (ps : List Nat) : (b_marks n ps).length = n := by simp [b_marks]
theorem marks_nil (n : Nat) : b_marks n [] = List.replicate n false := by
  apply List.ext_getElem (by simp [b_marks])
  intro i h1 h2
  simp [b_marks]
theorem marks_at (n : Nat) (ps : List Nat) (i : Nat) (h : i < n) : (b_marks n ps)[i]? = some (ps.contains i) := by simp [b_marks, h]
theorem marks_set (n : Nat) (ps : List Nat) (p : Nat) : (b_marks n ps).set p true = b_marks n (ps ++ [p]) := by
  apply List.ext_getElem (by simp [b_marks])
  intro i h1 h2
  have hi : i < n := by simpa [b_marks] using h1
  by_cases e : p = i
  · subst e
    simp [b_marks]
  · rw [List.getElem_set_ne e]
    have : ¬ i = p := fun h => e h.symm
    simp [b_marks, this]
/-- A block that holds these bools. -/
def RowB (w : World) (g : Nat) (l : List Bool) : Prop := w.heap[g]? = some (.cells (bls l).toArray 4 (0, 0))
theorem RowB.cell {w : World} {g : Nat} {l : List Bool} (h : RowB w g l) (i : Nat) (b : Bool) (hi : l[i]? = some b) : w.cell? ⟨g, i, none⟩ = some (.bool b) := by
  rw [cell_of_row w g i _ _ _ h]
  simp [bls, hi]
theorem RowB.free {w : World} {g : Nat} {l : List Bool} (h : RowB w g l) (i : Nat) : w.frozen? ⟨g, i, none⟩ = false := by simp [World.frozen?, show w.heap[g]? = _ from h]
theorem RowB.set {w : World} {g : Nat} {l : List Bool} (h : RowB w g l) (i : Nat) (b : Bool) : RowB (w.setCell ⟨g, i, none⟩ (.bool b)) g (l.set i b) := by
  have := heap_setCell_same w g i _ _ (.bool b) h
  unfold RowB
  rw [this]
  simp [bls, List.map_set]
theorem RowB.lt {w : World} {g : Nat} {l : List Bool} (h : RowB w g l) : g < w.heap.size := lt_of_block h
theorem RowB.old {w W : World} {g : Nat} {l : List Bool} (h : RowB w g l) (k : Old w W) : RowB W g l := (k.block g h.lt).trans h
theorem Row.old {w W : World} {g : Nat} {l : List UInt8} (h : Row w g l) (k : Old w W) : Row W g l := (k.block g (lt_of_block h)).trans h
/-- make([]bool, n). -/
theorem madeB (N : Nat) (hN : N ≤ 1000000) (w : World) : (Instr.makeSlice 101 (.int .i64 N) (.int .i64 N)).run Tryz.prog w = .ok (.slice (some ⟨w.heap.size, 0, none⟩) N N) (w.alloc (.cells (bls (List.replicate N false)).toArray 4)) := by
  obtain ⟨i0, hi, hz0, hz1, hz2⟩ := info_parts Tryz.info4
  have hr := run_make (P := Tryz.prog) w 101 4 i0 (.bool false) Tryz.underlying101 hi hz0 .i64 .i64 N N (by omega) (by omega) (by rw [hz2]; omega) (by omega)
  rw [hr, Int.toNat_natCast]
  have e : madeCells (Value.bool false).cells (N * i0.size) = (bls (List.replicate N false)).toArray := by
    rw [hz1, Nat.mul_one]
    apply Array.ext_getElem?
    intro j
    by_cases hj : j < N
    · simp [madeCells, bls, hj, Value.cells, Nat.mod_one]
    · simp [madeCells, bls, hj, Value.cells, Nat.mod_one]
  rw [e]

/-- The filter by the document's rule is the same. -/
theorem stage_make (names : List (List UInt8)) (b : Nat) :
    stage (fun i => (allP names (8 * sizeL names.length b)).contains i) (sizeL names.length b) 0 = makeL names b := by
  apply bits_ext (by rw [stage_length, makeL_length])
  intro i hi
  rw [stage_length] at hi
  rw [bitAt_stage _ _ _ hi]
  unfold makeL
  rw [bitAt_setAll, bitAt_zero, Bool.false_or]
  intro p hp
  obtain ⟨l, _, hl⟩ := List.mem_flatMap.1 hp
  rw [List.length_replicate]
  exact places_lt _ _ p hl

set_option maxRecDepth 100000 in
set_option maxHeartbeats 1000000 in
theorem rmake_arg (v : Value) (b : Int) (hb : b < 1 ∨ 64 < b) (w : World) :
    Calls Tryz.prog 30 #[v, .int .i64 b] w fun e w' => e = .returned (.tuple #[.string (B []), .int .i64 1]) ∧ w = w' := by
  go_enter Tryz.func30, Tryz.ntmps30
  rcases hb with hb | hb
  · go_wp2
    go_ret2
    exact ⟨rfl, rfl⟩
  · go_wp2
    go_ret2
    exact ⟨rfl, rfl⟩

set_option maxRecDepth 100000 in
set_option maxHeartbeats 4000000 in
theorem rmake_any (names : List (List UInt8)) (A : Option Addr) (cap : Nat) (b : Nat) (hb : 1 ≤ b) (hb2 : b ≤ 64) (hn : names.length ≤ 2000) (hls : ∀ l ∈ names, l.length ≤ 100000) (w : World) (hS : Strs w A cap names) :
    Calls Tryz.prog 30 #[.slice A names.length cap, .int .i64 (b : Int)] w fun e w' => e = .returned (.tuple #[.string (B (makeL names b)), .int .i64 0]) ∧ Old w w' := by
  obtain ⟨m, hm⟩ : ∃ m, m = names.length * b := ⟨_, rfl⟩
  have hmI : (names.length : Int) * (b : Int) = (m : Int) := by rw [hm, Int.natCast_mul]
  have hm2 : m ≤ 128000 := by rw [hm]; exact Nat.mul_le_mul hn hb2
  obtain ⟨N, hN⟩ : ∃ N, N = sizeL names.length b := ⟨_, rfl⟩
  have hNm : max 8 ((m + 7) / 8) = N := by rw [hN, hm]; rfl
  have hN2 := sizeL_le names.length b hn hb2
  rw [← hN] at hN2
  have HM := Lib.hid (stage_make names b)
  rw [← hN] at HM
  have e8 : (8 * (N : Int)) = ((8 * N : Nat) : Int) := by omega
  have hmk := madeB (8 * N) (by omega) w
  rw [← e8] at hmk
  clear hN hm
  go_enter Tryz.func30, Tryz.ntmps30
  have hif : (if ((m : Int) + 7) / 8 < 8 then (8 : Int) else ((m : Int) + 7) / 8) = (N : Int) := by split <;> omega
  have HE := Lib.hid e8
  clear e8 hNm
  go_wp2_with fail
  clear hmk hif
  go_loopw [8] (fun i wr => ∃ k : Nat, k ≤ names.length ∧ i = .int .i64 k ∧ RowB wr w.heap.size (b_marks (8 * N) (allP (names.take k) (8 * N))) ∧ Old w wr) (fun i _ => names.length - (intOf i).toNat)
  case atStart =>
    refine ⟨0, Nat.zero_le _, rfl, ?_, old_alloc _ _⟩
    show RowB _ _ (b_marks (8 * N) [])
    rw [marks_nil]
    exact heap_alloc_new w _
  case round =>
    obtain ⟨k, hk, rfl, h2, h3⟩ := hrel
    by_cases hlt : k < names.length
    · obtain ⟨hm1, bb, off, rfl, hcl⟩ := hS.at_ k hlt
      have hcl2 := cell_old hcl h3
      have hnl := hls _ (List.getElem_mem hlt)
      have HA := Lib.hid (allP_snoc names k hlt (8 * N))
      have HB := Lib.hid (rbits_any names[k] (by omega) (8 * N) (by omega) wr)
      rw [← HE.out] at HB
      clear hcl
      go_wp2_with fail
      refine HB.out.mono ?_
      rintro e w2 ⟨v, rfl, ho, hold⟩
      clear HB
      obtain ⟨A2, cap2, rfl, _⟩ := ho.shape
      have hpl := places_length names[k] (8 * N) (by omega)
      have hlp := fun j hj => places_lt names[k] (8 * N) _ (List.getElem_mem (n := j) hj)
      have h4 := h2.old hold
      have h5 := h3.tr hold
      have hsz : w.heap.size < wr.heap.size := h2.lt
      generalize places names[k] (8 * N) = ps at *
      rw [hpl]
      generalize allP (names.take k) (8 * N) = qs at *
      clear h2 hold hcl2
      go_wp2_with fail
      go_loopw [10] (fun i w3 => ∃ j : Nat, j ≤ 4 ∧ i = .int .i64 j ∧ RowB w3 w.heap.size (b_marks (8 * N) (qs ++ ps.take j)) ∧ Ints w3 wr.heap.size (.slice A2 ps.length cap2) ps ∧ Old w w3) (fun i _ => 4 - (intOf i).toNat)
      case atStart => exact ⟨0, Nat.zero_le _, rfl, by simpa using h4, ho, h5⟩
      case round =>
        clear ho h4 h5
        obtain ⟨j, hj, rfl, h4, ho, h5⟩ := hrel
        by_cases hjl : j < 4
        · obtain ⟨A3, cap3, he, hat⟩ := ho.shape
          have hq := hlp j (by omega)
          have HT := Lib.hid (show qs ++ ps.take (j + 1) = qs ++ ps.take j ++ [ps[j]] by rw [List.take_succ_eq_append_getElem (by omega), List.append_assoc])
          obtain ⟨g, rfl, hc⟩ := hat.at_ j (by omega)
          simp only [Value.slice.injEq] at he
          obtain ⟨rfl, -, rfl⟩ := he
          have hR := h4.set ps[j] true
          rw [marks_set, ← HT.out] at hR
          have hI := ho.set (a := ⟨w.heap.size, ps[j], none⟩) hsz (.bool true)
          have hO := h5.st (p := ⟨w.heap.size, ps[j], none⟩) (Nat.le_refl _) (.bool true)
          have hfr := h4.free ps[j]
          have hcb := h4.cell ps[j] _ (marks_at _ _ _ hq)
          clear h4 ho h5 hat HT
          generalize ps[j] = p at *
          go_wp2
          go_roundw
          case rel => exact ⟨j + 1, by omega, by go_num, hR, hI, hO⟩
          case measure => simp [intOf]; omega
        · obtain rfl : j = 4 := by omega
          rw [List.take_of_length_le (by omega), ← HA.out] at h4
          go_wp2
          go_roundw
          case rel => exact ⟨k + 1, by omega, by go_num, h4, h5⟩
          case measure => simp [intOf]; omega
    · rw [List.take_of_length_le (by omega)] at h2
      have hmk := made N (by omega) wr
      generalize allP names (8 * N) = qs at *
      have hsz : w.heap.size < wr.heap.size := h2.lt
      go_wp2_with fail
      clear hmk
      have hro := heap_alloc_new wr (.cells (bs (List.replicate N 0)).toArray 5)
      generalize wr.heap.size = gB at *
      go_loopw [12] (fun i w4 => ∃ m : Nat, m ≤ 8 * N ∧ i = .int .i64 ((m : Int) - 1) ∧ Row w4 gB (stage (fun i => qs.contains i) N m) ∧ RowB w4 w.heap.size (b_marks (8 * N) qs) ∧ Old w w4) (fun i _ => ((intOf i) + 1).toNat)
      case atStart =>
        refine ⟨8 * N, Nat.le_refl _, by go_num, ?_, h2.old (old_alloc _ _), h3.al _⟩
        rw [stage_end]
        exact hro
      case round =>
        clear h2 h3 hro
        obtain ⟨m2, hm2, rfl, hR, hB, hO⟩ := hrel
        rcases Nat.eq_zero_or_pos m2 with rfl | hpos
        · rw [HM.out] at hR
          have hfl := stage_length (fun i => qs.contains i) N 0
          rw [HM.out] at hfl
          have hcv := hR.str (cap := N)
          rw [hfl] at hcv
          go_wp2
          go_ret2
          exact ⟨rfl, hO⟩
        · obtain ⟨q, rfl⟩ : ∃ q, m2 = q + 1 := ⟨m2 - 1, by omega⟩
          rw [show (((q + 1 : Nat) : Int) - 1) = (q : Int) by omega]
          have hq8 : q / 8 < N := by omega
          have hcB := hR.cell (q / 8) (by rw [stage_length]; exact hq8)
          rw [stage_now _ _ _ (by omega)] at hcB
          have HS := Lib.hid (stage_step (fun i => qs.contains i) N q)
          have hy := val_small (fun i => qs.contains i) (q + 1) q
          have hcI := hB.cell q _ (marks_at _ _ _ (by omega))
          have hfB := hR.free (q / 8)
          generalize val (fun i => qs.contains i) (q + 1) (7 - q % 8) = y at *
          generalize hst : stage (fun i => qs.contains i) N (q + 1) = st at *
          have hne : w.heap.size ≠ gB := by omega
          have hcI2 : (wr.setCell ⟨gB, q / 8, none⟩ (.int .u8 ((y : Int) * 2))).cell? ⟨w.heap.size, q, none⟩ = some (.bool (qs.contains q)) := by
            rw [World.cell?_setCell_other _ _ _ _ (by simp)]; exact hcI
          have hR1 := hR.set (q / 8) (UInt8.ofNat (2 * y))
          rw [show ((UInt8.ofNat (2 * y)).toNat : Int) = (y : Int) * 2 by simp; omega] at hR1
          have hcB2 := hR1.cell (q / 8) (by rw [List.length_set, ← hst, stage_length]; exact hq8)
          rw [List.getElem_set_self, show ((UInt8.ofNat (2 * y)).toNat : Int) = (y : Int) * 2 by simp; omega] at hcB2
          have hB1 : RowB (wr.setCell ⟨gB, q / 8, none⟩ (.int .u8 ((y : Int) * 2))) w.heap.size (b_marks (8 * N) qs) := (heap_setCell_other _ _ _ _ hne).trans hB
          have hO1 := hO.st (p := ⟨gB, q / 8, none⟩) (by show w.heap.size ≤ gB; omega) (.int .u8 ((y : Int) * 2))
          generalize qs.contains q = bit at *
          cases bit
          · have HS2 := Lib.hid HS.out
            rw [if_neg (by decide), Nat.add_zero] at HS2
            clear HS hR hB hO hcI
            go_wp2
            go_roundw
            case rel => exact ⟨q, by omega, by go_num, by rw [HS2.out]; exact hR1, hB1, hO1⟩
            case measure => simp [intOf]
          · have HS2 := Lib.hid HS.out
            rw [if_pos rfl] at HS2
            have hR2 := hR1.set (q / 8) (UInt8.ofNat (2 * y + 1))
            rw [show ((UInt8.ofNat (2 * y + 1)).toNat : Int) = (y : Int) * 2 + 1 by simp; omega, List.set_set, ← HS2.out] at hR2
            have hB2 : RowB ((wr.setCell ⟨gB, q / 8, none⟩ (.int .u8 ((y : Int) * 2))).setCell ⟨gB, q / 8, none⟩ (.int .u8 ((y : Int) * 2 + 1))) w.heap.size (b_marks (8 * N) qs) := (heap_setCell_other _ _ _ _ hne).trans hB1
            have hO2 := hO1.st (p := ⟨gB, q / 8, none⟩) (by show w.heap.size ≤ gB; omega) (.int .u8 ((y : Int) * 2 + 1))
            clear HS HS2 hR hB hO hcI hR1 hB1 hO1
            go_wp2
            go_roundw
            case rel => exact ⟨q, by omega, by go_num, hR2, hB2, hO2⟩
            case measure => simp [intOf]

end Go.Proofs.YtlmlopdakbbbjaaGreatDoor
