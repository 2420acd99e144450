/-
  Reading a cell's bytes: the reader's take, small, text, lowFirst, flag. Conditions: lengths as written.
-/
import Derived.Test.YthdpiagnjakjiaaEnc
namespace Go.Proofs.Ythdpiagnjakjiaa
open Go.RowKit

theorem ext_B (l : List UInt8) (a b : Nat) : (B l).extract a b = B ((l.drop a).take (b - a)) := by
  apply ByteArray.ext
  simp [B, ByteArray.data_extract]
theorem ext_take (l : List UInt8) (n : Nat) : (B l).extract 0 n = B (l.take n) := by rw [ext_B]; simp
theorem ext_drop (l : List UInt8) (n m : Nat) (h : l.length ≤ m) : (B l).extract n m = B (l.drop n) := by
  rw [ext_B, List.take_of_length_le (by simp; omega)]
theorem ret_str {a b : ByteArray} (h : a = b) : Ending.returned (.string a) = .returned (.string b) := by rw [h]

/-- Block g is a reader: what is left, and its error. -/
def Rd (w : World) (g : Nat) (l : List UInt8) (e : Int) : Prop := w.heap[g]? = some (.cells #[.string (B l), .int .i64 e] 66 (0, 0))

theorem Rd.c0 {w : World} {g : Nat} {l : List UInt8} {e : Int} (h : Rd w g l e) : w.cell? ⟨g, 0, none⟩ = some (.string (B l)) := by
  rw [cell_of_row w g 0 _ _ _ h]; rfl
theorem Rd.c1 {w : World} {g : Nat} {l : List UInt8} {e : Int} (h : Rd w g l e) : w.cell? ⟨g, 1, none⟩ = some (.int .i64 e) := by
  rw [cell_of_row w g 1 _ _ _ h]; rfl
theorem Rd.fr {w : World} {g : Nat} {l : List UInt8} {e : Int} (h : Rd w g l e) (o : Nat) : w.frozen? ⟨g, o, none⟩ = false := by
  unfold Rd at h
  simp [World.frozen?, h]
theorem Rd.s0 {w : World} {g : Nat} {l : List UInt8} {e : Int} (h : Rd w g l e) (m : List UInt8) : Rd (w.setCell ⟨g, 0, none⟩ (.string (B m))) g m e := by
  unfold Rd at *
  simp [World.setCell, Array.getElem?_modify, h]
theorem Rd.s1 {w : World} {g : Nat} {l : List UInt8} {e : Int} (h : Rd w g l e) (f : Int) : Rd (w.setCell ⟨g, 1, none⟩ (.int .i64 f)) g l f := by
  unfold Rd at *
  simp [World.setCell, Array.getElem?_modify, h]

/-- Only block g has turned; nothing is new. -/
def But (g : Nat) (w w' : World) : Prop := w.grownBy w' (some g)
theorem But.re (g : Nat) (w : World) : But g w w := World.grownBy.refl w _
theorem But.st {g : Nat} {w w' : World} (h : But g w w') (o : Nat) (u : Value) : But g w (w'.setCell ⟨g, o, none⟩ u) :=
  ⟨h.os, h.tape, h.output, by simpa [World.setCell] using h.size, fun i hi hne => (Below.heap_setCell w' ⟨g, o, none⟩ u i (by rintro rfl; exact hne rfl)).trans (h.block i hi hne)⟩
theorem But.tr {g : Nat} {w w1 w2 : World} (h : But g w w1) (k : But g w1 w2) : But g w w2 :=
  ⟨k.os.trans h.os, k.tape.trans h.tape, k.output.trans h.output, Nat.le_trans h.size k.size, fun i hi hne => (k.block i (Nat.lt_of_lt_of_le hi h.size) hne).trans (h.block i hi hne)⟩

def takeT (l : List UInt8) (e : Int) (n : Nat) : List UInt8 := if e = 0 ∧ n ≤ l.length then l.take n else []
def takeL (l : List UInt8) (e : Int) (n : Nat) : List UInt8 := if e = 0 ∧ n ≤ l.length then l.drop n else l
def takeE (l : List UInt8) (e : Int) (n : Nat) : Int := if e = 0 ∧ l.length < n then 10 else e

set_option maxHeartbeats 1000000 in
theorem take_any (g : Nat) (l : List UInt8) (e : Int) (n : Nat) (w : World) (h : Rd w g l e) :
    Calls Try.prog 52 #[.pointer (some ⟨g, 0, none⟩), .int .i64 n] w fun r w' => r = .returned (.string (B (takeT l e n))) ∧ Rd w' g (takeL l e n) (takeE l e n) ∧ But g w w' := by
  have c0 := h.c0
  have c1 := h.c1
  have fr := h.fr
  by_cases he : e = 0
  · subst he
    by_cases hlt : l.length < n
    · have hd : decide (l.length < n) = true := by simpa using hlt
      go_enter Try.func52, Try.ntmps52
      go_wp2
      go_ret
      have e1 : takeT l 0 n = [] := if_neg (by omega)
      have e2 : takeL l 0 n = l := if_neg (by omega)
      have e3 : takeE l 0 n = 10 := if_pos (by omega)
      rw [e1, e2, e3]
      exact ⟨rfl, h.s1 _, (But.re _ _).st _ _⟩
    · go_enter Try.func52, Try.ntmps52
      go_wp2
      go_ret
      have e1 : takeT l 0 n = l.take n := if_pos (by omega)
      have e2 : takeL l 0 n = l.drop n := if_pos (by omega)
      have e3 : takeE l 0 n = 0 := if_neg (by omega)
      rw [e1, e2, e3]
      rw [ext_drop _ _ _ (Nat.le_refl _)]
      exact ⟨ret_str (ext_take _ _), h.s0 _, (But.re _ _).st _ _⟩
  · have he2 : (e == 0) = false := by simpa using he
    have he3 : (e != 0) = true := by simpa using he
    go_enter Try.func52, Try.ntmps52
    go_wp2
    go_ret
    have e1 : takeT l e n = [] := if_neg (by omega)
    have e2 : takeL l e n = l := if_neg (by omega)
    have e3 : takeE l e n = e := if_neg (by omega)
    rw [e1, e2, e3]
    exact ⟨rfl, h, But.re _ _⟩

theorem takeL_le (l : List UInt8) (e : Int) (n : Nat) : (takeL l e n).length ≤ l.length := by
  unfold takeL; split <;> simp
def small1 (l : List UInt8) (e : Int) : Nat := if takeE l e 1 = 0 then (l.headD 0).toNat else 0
theorem small1_le (l : List UInt8) (e : Int) : small1 l e ≤ 255 := by
  unfold small1; split
  · have := (l.headD 0).toNat_lt; omega
  · omega

set_option maxHeartbeats 1000000 in
theorem small_any (g : Nat) (l : List UInt8) (e : Int) (w : World) (h : Rd w g l e) (hl : l.length ≤ 100000) :
    Calls Try.prog 53 #[.pointer (some ⟨g, 0, none⟩)] w fun r w' => r = .returned (.int .i64 (small1 l e)) ∧ Rd w' g (takeL l e 1) (takeE l e 1) ∧ But g w w' := by
  go_enter Try.func53, Try.ntmps53
  go_wp2_with fail
  refine (take_any g l e 1 _ h).mono ?_
  rintro r w1 ⟨rfl, h1, hb⟩
  have c1 := h1.c1
  by_cases he : takeE l e 1 = 0
  · have hx : e = 0 ∧ 1 ≤ l.length := by
      unfold takeE at he
      split at he
      · omega
      · omega
    obtain ⟨rfl, hx⟩ := hx
    obtain ⟨b, l', rfl⟩ : ∃ b l', l = b :: l' := by
      cases l with
      | nil => simp at hx
      | cons b l' => exact ⟨b, l', rfl⟩
    have e1 : takeT (b :: l') 0 1 = [b] := by simp [takeT]
    have hs : small1 (b :: l') 0 = b.toNat := by simp [small1, he]
    have HS := Lib.hid hs
    rw [he] at c1
    rw [e1]
    clear hs e1 he
    go_wp2
    go_ret
    refine ⟨ret_int ?_, h1, hb⟩
    rw [HS.out]
    have hbt : b.toNat < 256 := b.toNat_lt
    show wrap64 (b.toNat : Int) = _
    unfold wrap64
    omega
  · have he2 : (takeE l e 1 != 0) = true := by simpa using he
    have HS := Lib.hid (show small1 l e = 0 from if_neg he)
    go_wp2
    go_ret
    refine ⟨ret_int ?_, h1, hb⟩
    rw [HS.out]
    rfl

def textT (l : List UInt8) (e : Int) : List UInt8 := takeT (takeL l e 1) (takeE l e 1) (small1 l e)
def textL (l : List UInt8) (e : Int) : List UInt8 := takeL (takeL l e 1) (takeE l e 1) (small1 l e)
def textE (l : List UInt8) (e : Int) : Int := takeE (takeL l e 1) (takeE l e 1) (small1 l e)

set_option maxHeartbeats 1000000 in
theorem text_any (g : Nat) (l : List UInt8) (e : Int) (w : World) (h : Rd w g l e) (hl : l.length ≤ 100000) :
    Calls Try.prog 46 #[.pointer (some ⟨g, 0, none⟩)] w fun r w' => r = .returned (.string (B (textT l e))) ∧ Rd w' g (textL l e) (textE l e) ∧ But g w w' := by
  have hs := small1_le l e
  have ht := takeL_le l e 1
  go_enter Try.func46, Try.ntmps46
  go_wp2_with fail
  refine (small_any g l e _ h hl).mono ?_
  rintro r w1 ⟨rfl, h1, hb⟩
  go_wp2_with fail
  refine (take_any g _ _ _ _ h1).mono ?_
  rintro r w2 ⟨rfl, h2, hb2⟩
  go_wp2
  go_ret
  exact ⟨rfl, h2, hb.tr hb2⟩

def flagB (l : List UInt8) (e : Int) : Bool := small1 l e == 1
def flagE (l : List UInt8) (e : Int) : Int := if 1 < small1 l e then 1 else takeE l e 1

set_option maxHeartbeats 1000000 in
theorem flag_any (g : Nat) (l : List UInt8) (e : Int) (w : World) (h : Rd w g l e) (hl : l.length ≤ 100000) :
    Calls Try.prog 48 #[.pointer (some ⟨g, 0, none⟩)] w fun r w' => r = .returned (.bool (flagB l e)) ∧ Rd w' g (takeL l e 1) (flagE l e) ∧ But g w w' := by
  have hs := small1_le l e
  go_enter Try.func48, Try.ntmps48
  go_wp2_with fail
  refine (small_any g l e _ h hl).mono ?_
  rintro r w1 ⟨rfl, h1, hb⟩
  have c1 := h1.c1
  have fr := h1.fr
  have HF : Hid (flagB l e = (small1 l e == 1) ∧ flagE l e = if 1 < small1 l e then 1 else takeE l e 1) := Lib.hid ⟨rfl, rfl⟩
  generalize small1 l e = n at *
  by_cases hn : 1 < n
  · have hn2 : n ≠ 1 := by omega
    go_wp2
    go_ret
    refine ⟨ret_bool ?_, ?_, hb.st _ _⟩
    · rw [HF.out.1, Bool.eq_iff_iff]; simp; omega
    · rw [HF.out.2, if_pos hn]; exact h1.s1 _
  · go_wp2
    go_ret
    refine ⟨ret_bool ?_, ?_, hb⟩
    · rw [HF.out.1, Bool.eq_iff_iff]; simp; omega
    · rw [HF.out.2, if_neg hn]; exact h1

/-- The number whose bytes these are, the lowest one first. -/
def lowV (l : List UInt8) : Nat := l.foldr (fun b n => b.toNat + 256 * n) 0
theorem lowV_lt (l : List UInt8) : lowV l < 256 ^ l.length := by
  induction l with
  | nil => simp [lowV]
  | cons b l ih =>
    have hb := b.toNat_lt
    simp only [lowV, List.foldr_cons, List.length_cons, Nat.pow_succ] at *
    omega
theorem lowV_snoc (l : List UInt8) (b : UInt8) : lowV (l ++ [b]) = lowV l + 256 ^ l.length * b.toNat := by
  induction l with
  | nil => simp [lowV]
  | cons c l ih =>
    simp only [lowV, List.cons_append, List.foldr_cons, List.length_cons, Nat.pow_succ] at *
    rw [ih, Nat.mul_add, ← Nat.add_assoc]
    congr 1
    rw [Nat.mul_comm (256 ^ l.length) 256, Nat.mul_assoc]

theorem wrap_u64_id (x : Nat) (h : x < 18446744073709551616) : IntKind.u64.wrap (x : Int) = (x : Int) := by
  rw [IntKind.wrap_u64]; omega
theorem or_u64 (a b : Nat) (ha : a < 18446744073709551616) (hb : b < 18446744073709551616) : bits BinOp.or IntKind.u64 (a : Int) (b : Int) = ((a ||| b : Nat) : Int) := by
  show IntKind.u64.wrap ((BitVec.ofInt 64 (a : Int) ||| BitVec.ofInt 64 (b : Int)).toNat : Int) = _
  rw [BitVec.toNat_or, BitVec.ofInt_natCast, BitVec.ofInt_natCast, BitVec.toNat_ofNat, BitVec.toNat_ofNat, Nat.mod_eq_of_lt (by omega), Nat.mod_eq_of_lt (by omega)]
  exact wrap_u64_id _ (by have : a ||| b < 2 ^ 64 := Nat.or_lt_two_pow (by omega) (by omega); omega)
theorem pow8 (k : Nat) : (2 : Nat) ^ (8 * k) = 256 ^ k := by rw [Nat.pow_mul]
theorem or_low (a b k : Nat) (ha : a < 256 ^ k) (hb : b < 256) (hk : k < 8) :
    bits BinOp.or IntKind.u64 (a : Int) (IntKind.u64.wrap (IntKind.u64.wrap (b : Int) * 2 ^ (8 * k))) = ((a + 256 ^ k * b : Nat) : Int) := by
  have h7 : 256 ^ k ≤ 256 ^ 7 := Nat.pow_le_pow_right (by omega) (by omega)
  have h1 : b * 256 ^ k ≤ 255 * 256 ^ 7 := Nat.mul_le_mul (by omega) h7
  rw [wrap_u64_id b (by omega)]
  have e : ((b : Int) * 2 ^ (8 * k)) = ((b * 256 ^ k : Nat) : Int) := by
    rw [← pow8]; simp
  rw [e, wrap_u64_id _ (by omega), or_u64 _ _ (by omega) (by omega)]
  congr 1
  rw [Nat.or_comm, Nat.mul_comm b, ← pow8, ← Nat.two_pow_add_eq_or_of_lt (by rw [pow8]; exact ha), Nat.add_comm]

set_option maxHeartbeats 1000000 in
theorem lowFirst_any (g : Nat) (l : List UInt8) (e : Int) (w : World) (h : Rd w g l e) :
    Calls Try.prog 47 #[.pointer (some ⟨g, 0, none⟩)] w fun r w' => r = .returned (.int .u64 (lowV (takeT l e 8))) ∧ Rd w' g (takeL l e 8) (takeE l e 8) ∧ But g w w' := by
  go_enter Try.func47, Try.ntmps47
  go_wp2_with fail
  refine (take_any g l e 8 _ h).mono ?_
  rintro r w1 ⟨rfl, h1, hb⟩
  have hlen : (takeT l e 8).length ≤ 8 := by unfold takeT; split <;> simp; omega
  generalize ht : takeT l e 8 = t at *
  have HT := Lib.hid ht
  clear ht
  go_wp2
  go_loop [4, 10] (fun n i => ∃ k : Nat, k ≤ t.length ∧ i = .int .i64 k ∧ n = .int .u64 (lowV (t.take k))) (fun _ i => t.length - (intOf i).toNat)
  case atStart => exact ⟨0, Nat.zero_le _, rfl, rfl⟩
  case round =>
    obtain ⟨k, hk, rfl, rfl⟩ := hrel
    by_cases hlt : k < t.length
    · go_wp2
      go_round
      case rel =>
        refine ⟨k + 1, by omega, by go_num, ?_⟩
        congr 1
        have hl1 := lowV_lt (t.take k)
        have hl2 : (t.take k).length = k := by simp; omega
        rw [hl2] at hl1
        refine (or_low _ (t[k].toNat) k hl1 t[k].toNat_lt (by omega)).trans ?_
        rw [List.take_succ_eq_append_getElem hlt, lowV_snoc, hl2]
      case measure => simp [intOf]; omega
    · go_wp2
      go_ret
      refine ⟨ret_int ?_, h1, hb⟩
      rw [List.take_of_length_le (by omega), HT.out]

/-- The number whose bytes these are, the highest one first. -/
def highV (l : List UInt8) : Nat := l.foldl (fun n b => n * 256 + b.toNat) 0
theorem highV_snoc (l : List UInt8) (b : UInt8) : highV (l ++ [b]) = highV l * 256 + b.toNat := by simp [highV]
theorem highV_lt (l : List UInt8) : highV l < 256 ^ l.length := by
  suffices h : ∀ (l : List UInt8) (n m : Nat), n < m → l.foldl (fun n b => n * 256 + b.toNat) n < m * 256 ^ l.length by
    simpa [highV] using h l 0 1 (by omega)
  intro l
  induction l with
  | nil => intro n m h; simpa using h
  | cons b l ih =>
    intro n m h
    have hb := b.toNat_lt
    simp only [List.foldl_cons, List.length_cons]
    have := ih (n * 256 + b.toNat) (m * 256) (by omega)
    rw [Nat.pow_succ, Nat.mul_comm (256 ^ l.length), ← Nat.mul_assoc]
    exact this

theorem or_high (a b k : Nat) (ha : a < 256 ^ k) (hb : b < 256) (hk : k < 8) :
    bits BinOp.or IntKind.u64 (IntKind.u64.wrap ((a : Int) * 256)) (IntKind.u64.wrap (b : Int)) = ((a * 256 + b : Nat) : Int) := by
  have h7 : 256 ^ k ≤ 256 ^ 7 := Nat.pow_le_pow_right (by omega) (by omega)
  rw [wrap_u64_id b (by omega)]
  have e : ((a : Int) * 256) = ((a * 256 : Nat) : Int) := by simp
  rw [e, wrap_u64_id _ (by omega), or_u64 _ _ (by omega) (by omega)]
  congr 1
  have := Nat.two_pow_add_eq_or_of_lt (i := 8) (b := b) (by omega) a
  rw [Nat.mul_comm a 256]
  exact this.symm

set_option maxHeartbeats 1000000 in
theorem highFirst_any (t : List UInt8) (w : World) (hlen : t.length ≤ 8) :
    Calls Try.prog 36 #[.string (B t)] w fun r w' => r = .returned (.int .u64 (highV t)) ∧ w = w' := by
  go_enter Try.func36, Try.ntmps36
  go_wp2
  go_loop [3, 7] (fun n i => ∃ k : Nat, k ≤ t.length ∧ i = .int .i64 k ∧ n = .int .u64 (highV (t.take k))) (fun _ i => t.length - (intOf i).toNat)
  case atStart => exact ⟨0, Nat.zero_le _, rfl, rfl⟩
  case round =>
    obtain ⟨k, hk, rfl, rfl⟩ := hrel
    by_cases hlt : k < t.length
    · go_wp2
      go_round
      case rel =>
        refine ⟨k + 1, by omega, by go_num, ?_⟩
        congr 1
        have hl1 := highV_lt (t.take k)
        have hl2 : (t.take k).length = k := by simp; omega
        rw [hl2] at hl1
        refine (or_high _ (t[k].toNat) k hl1 t[k].toNat_lt (by omega)).trans ?_
        rw [List.take_succ_eq_append_getElem hlt, highV_snoc]
      case measure => simp [intOf]; omega
    · go_wp2
      go_ret
      refine ⟨ret_int ?_, rfl⟩
      rw [List.take_of_length_le (by omega)]
end Go.Proofs.Ythdpiagnjakjiaa
