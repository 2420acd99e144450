/-
  May and Full of the code. Conditions: the table is laid; lengths as written.
-/
import Derived.Test.YtphonnihibikcaaDoorMem
import Derived.Shelf.Abstract
namespace Go.Proofs.YtphonnihibikcaaDoor
open Go.RowKit

/-- Whether all places of a name are set in a filter. -/
def mayTo (f l : List UInt8) (i : Nat) : Bool := (List.range i).all fun j => bitAt f (place l (8 * f.length) j)
def mayL (f l : List UInt8) : Bool := f.isEmpty || mayTo f l 4
theorem mayTo_succ (f l : List UInt8) (i : Nat) : mayTo f l (i + 1) = (mayTo f l i && bitAt f (place l (8 * f.length) i)) := by
  unfold mayTo
  rw [List.range_succ, List.all_append]
  simp
theorem mayTo_false (f l : List UInt8) (i : Nat) (hi : i < 4) (h : bitAt f (place l (8 * f.length) i) = false) : mayTo f l 4 = false := by
  unfold mayTo
  rw [List.all_eq_false]
  exact ⟨i, List.mem_range.2 hi, by simp [h]⟩

theorem pow_cast (x k : Nat) : ((x : Int) / 2 ^ k) = ((x / 2 ^ k : Nat) : Int) := by
  rw [Int.natCast_ediv, Int.natCast_pow]; rfl
theorem and_one (a : Nat) (ha : a < 256) : bits BinOp.and IntKind.u8 (a : Int) 1 = ((a % 2 : Nat) : Int) := by
  show IntKind.u8.wrap ((BitVec.ofInt 8 (a : Int) &&& BitVec.ofInt 8 1).toNat : Int) = _
  rw [BitVec.toNat_and, BitVec.ofInt_natCast, BitVec.toNat_ofNat, show (BitVec.ofInt 8 1).toNat = 1 from rfl, Nat.mod_eq_of_lt (by omega), Nat.and_one_is_mod, IntKind.wrap_u8]
  omega
theorem bit_and (x : UInt8) (k : Nat) : (bits BinOp.and IntKind.u8 ((x.toNat : Int) / 2 ^ k) 1 == 1) = x.toNat.testBit k := by
  have h := x.toNat_lt
  have h2 : x.toNat / 2 ^ k ≤ x.toNat := Nat.div_le_self _ _
  rw [pow_cast, and_one _ (by omega), Nat.testBit_eq_decide_div_mod_eq]
  by_cases hb : x.toNat / 2 ^ k % 2 = 1
  · simp [hb]
  · have : x.toNat / 2 ^ k % 2 = 0 := by omega
    simp [this]
theorem bitAt_at (f : List UInt8) (p : Nat) (h : p / 8 < f.length) : bitAt f p = (f[p / 8]).toNat.testBit (p % 8) := by
  unfold bitAt
  rw [List.getD_eq_getElem?_getD, List.getElem?_eq_getElem h, Option.getD_some]

set_option maxHeartbeats 1000000 in
theorem may1_any (f : List UInt8) (hf : f.length ≤ 100000) (p : Nat) (hp : p < 8 * f.length) (F A : Nat) (b0 : Bool) (w : World) (hF : w.heap[F]? = some (.cells #[.string (B f)] 9 (0, 0))) (hA : w.heap[A]? = some (.cells #[.bool b0] 4 (0, 0))) :
    Calls Tryd.prog 27 #[.int .i64 p, .pointer (some ⟨F, 0, none⟩), .pointer (some ⟨A, 0, none⟩)] w fun e w' => e = .returned (.bool (bitAt f p)) ∧ w' = w.setCell ⟨A, 0, none⟩ (.bool (bitAt f p)) := by
  have c1 := cell_of_one hF
  have c2 := cell_of_one hA
  have c3 := free_of_one hA
  have hq : p / 8 < f.length := by omega
  go_enter Tryd.func27, Tryd.ntmps27
  have HB := Lib.hid (show (bits BinOp.and IntKind.u8 (((B f)[p / 8]'(by simpa [ByteArray.size] using hq)).toNat / 2 ^ (p % 8) : Int) 1 == 1) = bitAt f p by rw [bit_and, bitAt_at f p hq]; rfl)
  go_wp2
  go_ret
  rw [HB.out]
  exact ⟨rfl, rfl⟩

theorem tell_may (f l : List UInt8) (hf : f.length ≤ 100000) (hl : l.length ≤ 100000) (w w0 : World) (F A : Nat) (h : Tab w) (hFA : F ≠ A) (hs : w0.heap.size ≤ A) (hF : w.heap[F]? = some (.cells #[.string (B f)] 9 (0, 0))) (hA : w.heap[A]? = some (.cells #[.bool true] 4 (0, 0))) (hb : Old w0 w) :
    Calls Tryd.prog 22 #[.string (B l), .int .i64 (8 * (f.length : Int)), .func (.func 27) #[] #[.pointer (some ⟨F, 0, none⟩), .pointer (some ⟨A, 0, none⟩)]] w fun e w' => e = .returned (.tuple #[]) ∧ (w'.heap[A]? = some (.cells #[.bool (mayL f l)] 4 (0, 0)) ∧ Old w0 w') := by
  by_cases h0 : f.length = 0
  · refine (tell_none l _ (by omega) _ w).mono ?_
    rintro e w' ⟨rfl, rfl⟩
    refine ⟨rfl, ?_, hb⟩
    have : f = [] := List.eq_nil_of_length_eq_zero h0
    subst this
    exact hA
  · have e8 : (8 * (f.length : Int)) = ((8 * f.length : Nat) : Int) := by omega
    rw [e8]
    have hne : f.isEmpty = false := by cases f <;> simp at h0 ⊢
    refine tell_any l (by omega) (8 * f.length) (by omega) (by omega) 27 (enters_of Tryd.func27 (by kernel_rfl) rfl) _
      (fun i w' => w'.heap[F]? = some (.cells #[.string (B f)] 9 (0, 0)) ∧ w'.heap[A]? = some (.cells #[.bool true] 4 (0, 0)) ∧ mayTo f l i = true ∧ Old w0 w')
      (fun w' => w'.heap[A]? = some (.cells #[.bool (mayL f l)] 4 (0, 0)) ∧ Old w0 w') w h ⟨hF, hA, rfl, hb⟩ ?_ ?_
    · rintro w' ⟨h1, h2, h3, h4⟩
      unfold mayL
      rw [h3, hne]
      exact ⟨h2, h4⟩
    · rintro i hi w' ⟨h1, h2, h3, h4⟩
      refine (may1_any f hf (place l (8 * f.length) i) (place_lt _ _ _ (by omega)) F A true w' h1 h2).mono ?_
      rintro e w2 ⟨rfl, rfl⟩
      refine ⟨_, rfl, fun hb => ?_, fun hb => ?_⟩
      · rw [hb]
        exact ⟨by rw [heap_setCell_other _ _ _ _ hFA]; exact h1, one_setCell h2, by rw [mayTo_succ, h3, hb]; rfl, h4.st hs _⟩
      · rw [hb]
        refine ⟨?_, h4.st hs _⟩
        unfold mayL
        rw [mayTo_false f l i hi hb, hne]
        exact one_setCell h2

set_option maxHeartbeats 1000000 in
theorem may_any (f l : List UInt8) (hf : f.length ≤ 100000) (hl : l.length ≤ 100000) (w : World) (h : Tab w) :
    Calls Tryd.prog 18 #[.string (B f), .string (B l)] w fun e w' => e = .returned (.bool (mayL f l)) ∧ Old w w' := by
  have hmf : ∀ (fn : Fn) (first cap : Array Value) (w : World), (Instr.makeFunc fn first cap).run Tryd.prog w = .ok (.func fn first cap) w := fun _ _ _ _ => rfl
  go_enter Tryd.func18, Tryd.ntmps18
  go_wp2_with fail
  refine (tell_may f l hf hl _ w _ _ ((h.al _).al _) (by omega) (by omega) ?_ ?_ ((old_alloc _ _).al _)).mono ?_
  · rw [Below.heap_alloc _ _ _ (by simp)]
    exact heap_alloc_new w _
  · simpa using heap_alloc_new (w.alloc (.cells #[.string (B f)] 9)) (.cells #[.bool true] 4)
  rintro e w1 ⟨rfl, h1, h2⟩
  have c1 := cell_of_one h1
  go_wp2
  go_ret
  exact ⟨rfl, h2⟩
end Go.Proofs.YtphonnihibikcaaDoor
