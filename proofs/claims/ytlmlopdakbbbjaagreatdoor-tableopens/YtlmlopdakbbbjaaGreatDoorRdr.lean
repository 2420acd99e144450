/-
  What the reader's calls take: text, number, of the code. Conditions: lengths as written.
-/
import Derived.Test.YtlmlopdakbbbjaaGreatDoorEnt
namespace Go.Proofs.YtlmlopdakbbbjaaGreatDoor
open Go.RowKit

/-- Block g is a reader: what is left, and whether bytes were too few. -/
abbrev Rd (w : World) (g : Nat) (s : List UInt8 × Bool) : Prop := Bk w g 150 #[.string (B s.1), .bool s.2]
/-- n bytes taken: these, and what is left. -/
def tk (s : List UInt8 × Bool) (n : Nat) : List UInt8 × (List UInt8 × Bool) := if s.2 = true ∨ s.1.length < n then ([], (s.1, true)) else (s.1.take n, (s.1.drop n, false))
theorem tk_no {s : List UInt8 × Bool} {n : Nat} (h : s.2 = true ∨ s.1.length < n) : tk s n = ([], (s.1, true)) := if_pos h
theorem tk_yes {s : List UInt8 × Bool} {n : Nat} (h1 : s.2 = false) (h2 : n ≤ s.1.length) : tk s n = (s.1.take n, (s.1.drop n, false)) := if_neg (by rw [h1]; simp; omega)
theorem tk_len (s : List UInt8 × Bool) (n : Nat) : (tk s n).1.length ≤ n := by
  unfold tk; split
  · simp
  · simp; omega
theorem tk_left (s : List UInt8 × Bool) (n : Nat) : (tk s n).2.1.length ≤ s.1.length := by
  unfold tk; split
  · simp
  · simp
theorem tk_got (s : List UInt8 × Bool) (n : Nat) : (tk s n).1.length ≤ s.1.length := by
  unfold tk; split
  · simp
  · simp; omega

theorem But.se {g : Nat} {w w' : World} (h : But g w w') (o : Nat) (u : Value) : But g w (w'.setCell ⟨g, o, none⟩ u) := h.st o u
theorem But.dn {g : Nat} {w w' : World} (h : But g w w') (n : Nat) : But g w (w'.drewN n) := ⟨h.os, h.tape, h.output, h.size, h.block⟩
theorem But.al {g : Nat} {w w' : World} (h : But g w w') (o : Obj) (hg : w.heap.size ≤ w'.heap.size) : But g w (w'.alloc o) :=
  ⟨h.os, h.tape, h.output, by simp; omega, fun i hi hne => ((old_alloc w' o).block i (by omega)).trans (h.block i hi hne)⟩
theorem But.old {g : Nat} {w w1 w2 : World} (h : But g w w1) (k : Old w1 w2) : But g w w2 :=
  ⟨k.os.trans h.os, k.tape.trans h.tape, k.output.trans h.output, Nat.le_trans h.size k.size, fun i hi hne => (k.block i (Nat.lt_of_lt_of_le hi h.size)).trans (h.block i hi hne)⟩
theorem But.fst {g : Nat} {w w' : World} (h : But g w w') {p : Addr} (hp : w.heap.size ≤ p.block) (u : Value) : But g w (w'.setCell p u) :=
  ⟨h.os, h.tape, h.output, by simpa [World.setCell] using h.size, fun i hi hne => (Below.heap_setCell w' p u i (by omega)).trans (h.block i hi hne)⟩

set_option maxHeartbeats 1000000 in
theorem rtake_any (g : Nat) (s : List UInt8 × Bool) (n : Nat) (w : World) (h : Rd w g s) (hl : s.1.length ≤ 10000000) :
    Calls Tryz.prog 115 #[.pointer (some ⟨g, 0, none⟩), .int .i64 n] w fun r w' => r = .returned (.string (B (tk s n).1)) ∧ Rd w' g (tk s n).2 ∧ But g w w' := by
  obtain ⟨l, sh⟩ := s
  simp only at hl
  have c0 := h.cell 0
  have c1 := h.cell 1
  have fr := h.fr
  simp only [List.getElem?_toArray, List.getElem?_cons_zero, List.getElem?_cons_succ] at c0 c1
  cases sh with
  | true =>
    have HT := Lib.hid (tk_no (s := (l, true)) (n := n) (.inl rfl))
    go_enter Tryz.func115, Tryz.ntmps115
    go_wp2
    go_ret
    rw [HT.out]
    exact ⟨rfl, h.set_ 1 _, (But.re _ _).se _ _⟩
  | false =>
    by_cases hlt : l.length < n
    · have HT := Lib.hid (tk_no (s := (l, false)) (n := n) (.inr hlt))
      have hd : decide ((l.length : Int) < (n : Int)) = true := by simp; omega
      go_enter Tryz.func115, Tryz.ntmps115
      go_wp2
      go_ret
      rw [HT.out]
      exact ⟨rfl, h.set_ 1 _, (But.re _ _).se _ _⟩
    · have HT := Lib.hid (tk_yes (s := (l, false)) (n := n) rfl (by simp; omega))
      have hd : decide ((l.length : Int) < (n : Int)) = false := by simp; omega
      have hle : (n : Int) ≤ (l.length : Int) := by omega
      go_enter Tryz.func115, Tryz.ntmps115
      go_wp2
      go_ret
      rw [HT.out, ext_drop _ _ _ (Nat.le_refl _)]
      refine ⟨ret_str (ext_take _ _), ?_, ((But.re _ _).se _ _).se _ _⟩
      exact (h.set_ 1 (.bool false)).set_ 0 (.string (B (l.drop n)))

theorem wrap_i64_id (x : Nat) (h : x < 4611686018427387904) : IntKind.i64.wrap (x : Int) = (x : Int) := by
  rw [IntKind.wrap_i64]; omega
theorem or_i64 (a b : Nat) (ha : a < 4611686018427387904) (hb : b < 4611686018427387904) : bits BinOp.or IntKind.i64 (a : Int) (b : Int) = ((a ||| b : Nat) : Int) := by
  show IntKind.i64.wrap ((BitVec.ofInt 64 (a : Int) ||| BitVec.ofInt 64 (b : Int)).toNat : Int) = _
  rw [BitVec.toNat_or, BitVec.ofInt_natCast, BitVec.ofInt_natCast, BitVec.toNat_ofNat, BitVec.toNat_ofNat, Nat.mod_eq_of_lt (by omega), Nat.mod_eq_of_lt (by omega)]
  exact wrap_i64_id _ (by have : a ||| b < 2 ^ 62 := Nat.or_lt_two_pow (by omega) (by omega); omega)
theorem or_low_i (a b k : Nat) (ha : a < 256 ^ k) (hb : b < 256) (hk : k < 4) :
    bits BinOp.or IntKind.i64 (a : Int) (IntKind.i64.wrap (IntKind.i64.wrap (b : Int) * 2 ^ (8 * k))) = ((a + 256 ^ k * b : Nat) : Int) := by
  have h7 : 256 ^ k ≤ 256 ^ 3 := Nat.pow_le_pow_right (by omega) (by omega)
  have h1 : b * 256 ^ k ≤ 255 * 256 ^ 3 := Nat.mul_le_mul (by omega) h7
  rw [wrap_i64_id b (by omega)]
  have e : ((b : Int) * 2 ^ (8 * k)) = ((b * 256 ^ k : Nat) : Int) := by
    rw [← pow8]; simp
  rw [e, wrap_i64_id _ (by omega), or_i64 _ _ (by omega) (by omega)]
  congr 1
  rw [Nat.or_comm, Nat.mul_comm b, ← pow8, ← Nat.two_pow_add_eq_or_of_lt (by rw [pow8]; exact ha), Nat.add_comm]

theorem or_low_w (a b k : Nat) (ha : a < 256 ^ k) (hb : b < 256) (hk : k < 4) :
    bits BinOp.or IntKind.i64 (a : Int) (wrap64 (wrap64 (b : Int) * 2 ^ (8 * k))) = ((a + 256 ^ k * b : Nat) : Int) := by
  have e : ∀ x : Int, wrap64 x = IntKind.i64.wrap x := fun x => by rw [IntKind.wrap_i64]; first | rfl | (unfold wrap64; omega)
  rw [e, e]
  exact or_low_i a b k ha hb hk

set_option maxHeartbeats 1000000 in
theorem rnum_any (g : Nat) (s : List UInt8 × Bool) (n : Nat) (w : World) (h : Rd w g s) (hl : s.1.length ≤ 10000000) (hn : n ≤ 3) :
    Calls Tryz.prog 110 #[.pointer (some ⟨g, 0, none⟩), .int .i64 n] w fun r w' => r = .returned (.int .i64 (lowV (tk s n).1 : Nat)) ∧ Rd w' g (tk s n).2 ∧ But g w w' := by
  go_enter Tryz.func110, Tryz.ntmps110
  go_wp2_with fail
  refine (rtake_any g s n _ h hl).mono ?_
  rintro r w1 ⟨rfl, h1, hb⟩
  have hlen := tk_len s n
  generalize ht : (tk s n).1 = t at *
  have HT := Lib.hid ht
  clear ht
  go_wp2
  go_loop [6, 13] (fun v i => ∃ k : Nat, k ≤ t.length ∧ i = .int .i64 k ∧ v = .int .i64 (lowV (t.take k) : Nat)) (fun _ i => t.length - (intOf i).toNat)
  case atStart => exact ⟨0, Nat.zero_le _, rfl, rfl⟩
  case round =>
    obtain ⟨k, hk, rfl, rfl⟩ := hrel
    by_cases hlt : k < t.length
    · go_wp2
      go_round
      case rel =>
        refine ⟨k + 1, by omega, by go_num, ?_⟩
        congr 1
        have hl1 := lowV_lt (t.take k)
        have hl2 : (t.take k).length = k := by simp; omega
        rw [hl2] at hl1
        have e1 : (B t)[k]'(by simpa [ByteArray.size] using hlt) = t[k] := rfl
        rw [e1, or_low_w _ (t[k].toNat) k hl1 t[k].toNat_lt (by omega)]
        rw [List.take_succ_eq_append_getElem hlt, lowV_snoc, hl2]
      case measure => simp [intOf]; omega
    · go_wp2
      go_ret
      refine ⟨ret_int ?_, h1, hb⟩
      rw [List.take_of_length_le (by omega), HT.out]
end Go.Proofs.YtlmlopdakbbbjaaGreatDoor
