/-
  Reading a cell's bytes: the reader's take, small, text, lowFirst, flag. Conditions: lengths as written.
-/
import Derived.Test.YthanenblcplbhaaMEnc
namespace Go.Proofs.Ythanenblcplbhaa
open Go.RowKit

theorem ext_B (l : List UInt8) (a b : Nat) : (B l).extract a b = B ((l.drop a).take (b - a)) := by
  apply ByteArray.ext
  simp [B, ByteArray.data_extract]
theorem ext_take (l : List UInt8) (n : Nat) : (B l).extract 0 n = B (l.take n) := by rw [ext_B]; simp
theorem ext_drop (l : List UInt8) (n m : Nat) (h : l.length ≤ m) : (B l).extract n m = B (l.drop n) := by
  rw [ext_B, List.take_of_length_le (by simp; omega)]
theorem ret_str {a b : ByteArray} (h : a = b) : Ending.returned (.string a) = .returned (.string b) := by rw [h]

/-- Only block g has turned; nothing is new. -/
def But (g : Nat) (w w' : World) : Prop := w.grownBy w' (some g)
theorem But.re (g : Nat) (w : World) : But g w w := World.grownBy.refl w _
theorem But.st {g : Nat} {w w' : World} (h : But g w w') (o : Nat) (u : Value) : But g w (w'.setCell ⟨g, o, none⟩ u) :=
  ⟨h.os, h.tape, h.output, by simpa [World.setCell] using h.size, fun i hi hne => (Below.heap_setCell w' ⟨g, o, none⟩ u i (by rintro rfl; exact hne rfl)).trans (h.block i hi hne)⟩
theorem But.tr {g : Nat} {w w1 w2 : World} (h : But g w w1) (k : But g w1 w2) : But g w w2 :=
  ⟨k.os.trans h.os, k.tape.trans h.tape, k.output.trans h.output, Nat.le_trans h.size k.size, fun i hi hne => (k.block i (Nat.lt_of_lt_of_le hi h.size) hne).trans (h.block i hi hne)⟩

def takeT (l : List UInt8) (e : Int) (n : Nat) : List UInt8 := if e = 0 ∧ n ≤ l.length then l.take n else []
def takeL (l : List UInt8) (e : Int) (n : Nat) : List UInt8 := if e = 0 ∧ n ≤ l.length then l.drop n else l
def takeE (l : List UInt8) (e : Int) (n : Nat) : Int := if e = 0 ∧ l.length < n then 10 else e

theorem takeL_le (l : List UInt8) (e : Int) (n : Nat) : (takeL l e n).length ≤ l.length := by
  unfold takeL; split <;> simp
def small1 (l : List UInt8) (e : Int) : Nat := if takeE l e 1 = 0 then (l.headD 0).toNat else 0
theorem small1_le (l : List UInt8) (e : Int) : small1 l e ≤ 255 := by
  unfold small1; split
  · have := (l.headD 0).toNat_lt; omega
  · omega

def textT (l : List UInt8) (e : Int) : List UInt8 := takeT (takeL l e 1) (takeE l e 1) (small1 l e)
def textL (l : List UInt8) (e : Int) : List UInt8 := takeL (takeL l e 1) (takeE l e 1) (small1 l e)
def textE (l : List UInt8) (e : Int) : Int := takeE (takeL l e 1) (takeE l e 1) (small1 l e)

def flagB (l : List UInt8) (e : Int) : Bool := small1 l e == 1
def flagE (l : List UInt8) (e : Int) : Int := if 1 < small1 l e then 1 else takeE l e 1

/-- The number whose bytes these are, the lowest one first. -/
def lowV (l : List UInt8) : Nat := l.foldr (fun b n => b.toNat + 256 * n) 0
theorem lowV_lt (l : List UInt8) : lowV l < 256 ^ l.length := by
  induction l with
  | nil => simp [lowV]
  | cons b l ih =>
    have hb := b.toNat_lt
    simp only [lowV, List.foldr_cons, List.length_cons, Nat.pow_succ] at *
    omega
theorem lowV_snoc (l : List UInt8) (b : UInt8) : lowV (l ++ [b]) = lowV l + 256 ^ l.length * b.toNat := by
  induction l with
  | nil => simp [lowV]
  | cons c l ih =>
    simp only [lowV, List.cons_append, List.foldr_cons, List.length_cons, Nat.pow_succ] at *
    rw [ih, Nat.mul_add, ← Nat.add_assoc]
    congr 1
    rw [Nat.mul_comm (256 ^ l.length) 256, Nat.mul_assoc]

theorem wrap_u64_id (x : Nat) (h : x < 18446744073709551616) : IntKind.u64.wrap (x : Int) = (x : Int) := by
  rw [IntKind.wrap_u64]; omega
theorem or_u64 (a b : Nat) (ha : a < 18446744073709551616) (hb : b < 18446744073709551616) : bits BinOp.or IntKind.u64 (a : Int) (b : Int) = ((a ||| b : Nat) : Int) := by
  show IntKind.u64.wrap ((BitVec.ofInt 64 (a : Int) ||| BitVec.ofInt 64 (b : Int)).toNat : Int) = _
  rw [BitVec.toNat_or, BitVec.ofInt_natCast, BitVec.ofInt_natCast, BitVec.toNat_ofNat, BitVec.toNat_ofNat, Nat.mod_eq_of_lt (by omega), Nat.mod_eq_of_lt (by omega)]
  exact wrap_u64_id _ (by have : a ||| b < 2 ^ 64 := Nat.or_lt_two_pow (by omega) (by omega); omega)
theorem pow8 (k : Nat) : (2 : Nat) ^ (8 * k) = 256 ^ k := by rw [Nat.pow_mul]
theorem or_low (a b k : Nat) (ha : a < 256 ^ k) (hb : b < 256) (hk : k < 8) :
    bits BinOp.or IntKind.u64 (a : Int) (IntKind.u64.wrap (IntKind.u64.wrap (b : Int) * 2 ^ (8 * k))) = ((a + 256 ^ k * b : Nat) : Int) := by
  have h7 : 256 ^ k ≤ 256 ^ 7 := Nat.pow_le_pow_right (by omega) (by omega)
  have h1 : b * 256 ^ k ≤ 255 * 256 ^ 7 := Nat.mul_le_mul (by omega) h7
  rw [wrap_u64_id b (by omega)]
  have e : ((b : Int) * 2 ^ (8 * k)) = ((b * 256 ^ k : Nat) : Int) := by
    rw [← pow8]; simp
  rw [e, wrap_u64_id _ (by omega), or_u64 _ _ (by omega) (by omega)]
  congr 1
  rw [Nat.or_comm, Nat.mul_comm b, ← pow8, ← Nat.two_pow_add_eq_or_of_lt (by rw [pow8]; exact ha), Nat.add_comm]

/-- The number whose bytes these are, the highest one first. -/
def highV (l : List UInt8) : Nat := l.foldl (fun n b => n * 256 + b.toNat) 0
theorem highV_snoc (l : List UInt8) (b : UInt8) : highV (l ++ [b]) = highV l * 256 + b.toNat := by simp [highV]
theorem highV_lt (l : List UInt8) : highV l < 256 ^ l.length := by
  suffices h : ∀ (l : List UInt8) (n m : Nat), n < m → l.foldl (fun n b => n * 256 + b.toNat) n < m * 256 ^ l.length by
    simpa [highV] using h l 0 1 (by omega)
  intro l
  induction l with
  | nil => intro n m h; simpa using h
  | cons b l ih =>
    intro n m h
    have hb := b.toNat_lt
    simp only [List.foldl_cons, List.length_cons]
    have := ih (n * 256 + b.toNat) (m * 256) (by omega)
    rw [Nat.pow_succ, Nat.mul_comm (256 ^ l.length), ← Nat.mul_assoc]
    exact this

theorem or_high (a b k : Nat) (ha : a < 256 ^ k) (hb : b < 256) (hk : k < 8) :
    bits BinOp.or IntKind.u64 (IntKind.u64.wrap ((a : Int) * 256)) (IntKind.u64.wrap (b : Int)) = ((a * 256 + b : Nat) : Int) := by
  have h7 : 256 ^ k ≤ 256 ^ 7 := Nat.pow_le_pow_right (by omega) (by omega)
  rw [wrap_u64_id b (by omega)]
  have e : ((a : Int) * 256) = ((a * 256 : Nat) : Int) := by simp
  rw [e, wrap_u64_id _ (by omega), or_u64 _ _ (by omega) (by omega)]
  congr 1
  have := Nat.two_pow_add_eq_or_of_lt (i := 8) (b := b) (by omega) a
  rw [Nat.mul_comm a 256]
  exact this.symm

end Go.Proofs.Ythanenblcplbhaa
