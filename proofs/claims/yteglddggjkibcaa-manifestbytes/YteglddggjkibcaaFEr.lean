/-
  The reference's small functions over bytes: short, Number, first, taken, number. Conditions: lengths as written.
-/
import Derived.Test.YteglddggjkibcaaFDec
namespace Go.Proofs.Yteglddggjkibcaa
open Go.RowKit Go.Shelf

theorem Own.blk {w : World} {base g : Nat} {l : List UInt8} (hb : base ≤ g) (h : Bk w g 5 (bs l).toArray) (hl : l.length ≤ 1000) : Own w base (.slice (some ⟨g, 0, none⟩) l.length l.length) l := by
  refine ⟨by simp [bs_length], .inr ⟨g, l.length, (bs l).toArray, rfl, hb, h, Nat.le_refl _, by unfold maxLen; omega, by simp [bs_length], ?_⟩⟩
  simp only [Nat.mul_one]
  rw [List.take_of_length_le (by simp [bs_length])]
theorem add_B (a b : List UInt8) : B a ++ B b = B (a ++ b) := by
  apply ByteArray.ext
  simp [B]
theorem low1 (n : Nat) : lowN n 1 = [UInt8.ofNat n] := by simp [lowN]
theorem low2 (n : Nat) : lowN n 2 = [UInt8.ofNat n, UInt8.ofNat (n / 256)] := by simp [lowN]
theorem low8 (n : Nat) : lowN n 8 = [UInt8.ofNat n, UInt8.ofNat (n / 256), UInt8.ofNat (n / 256 / 256), UInt8.ofNat (n / 256 / 256 / 256), UInt8.ofNat (n / 256 / 256 / 256 / 256), UInt8.ofNat (n / 256 / 256 / 256 / 256 / 256), UInt8.ofNat (n / 256 / 256 / 256 / 256 / 256 / 256), UInt8.ofNat (n / 256 / 256 / 256 / 256 / 256 / 256 / 256)] := by
  simp [lowN, Nat.div_div_eq_div_mul]
theorem len_cells (n : Nat) (h : n < 256) : (#[.int .u8 (n : Int)] : Array Value) = (bs (lowN n 1)).toArray := by
  rw [low1]
  simp [bs]; omega
/-- string([]byte{n}). -/
theorem run_byte (w : World) (n : Nat) (h : n < 256) : (convert 81 9 (.slice (some ⟨w.heap.size, 0, none⟩) 1 1)).run Try.prog (w.alloc (.cells #[.int .u8 (n : Int)] 5)) = .ok (.string (B (lowN n 1))) (w.alloc (.cells #[.int .u8 (n : Int)] 5)) := by
  rw [len_cells n h]
  have hB := new_bk w 5 (bs (lowN n 1)).toArray
  have := Own.blk (l := lowN n 1) (Nat.le_refl _) hB (by rw [lowN_length]; omega)
  rw [lowN_length] at this
  exact run_str this
set_option maxHeartbeats 2000000 in
theorem short_any (x : List UInt8) (hx : x.length ≤ 255) (w : World) :
    Calls Try.prog 50 #[.string (B x)] w fun e w' => e = .returned (.string (B (short x))) ∧ Old w w' := by
  have hw : IntKind.u8.wrap (x.length : Int) = (x.length : Int) := by rw [IntKind.wrap_u8]; omega
  have hcv := run_byte w x.length (by omega)
  have hO : Old w (w.alloc (.cells #[.int .u8 (x.length : Int)] 5)) := (Old.re _).al _
  have hl1 : (lowN x.length 1).length = 1 := lowN_length _ _
  have HS := Lib.hid (show B (lowN x.length 1) ++ B x = B (short x) from add_B _ _)
  generalize lowN x.length 1 = p at *
  go_enter Try.func50, Try.ntmps50
  go_wp2
  go_ret
  rw [HS.out]
  exact ⟨rfl, hO⟩
abbrev zero8 : Array Value := #[.int .u8 0, .int .u8 0, .int .u8 0, .int .u8 0, .int .u8 0, .int .u8 0, .int .u8 0, .int .u8 0]
theorem run_make8 (w : World) : (Instr.makeSlice 81 (.int .i64 8) (.int .i64 8)).run Try.prog w = .ok (.slice (some ⟨w.heap.size, 0, none⟩) 8 8) (w.alloc (.cells zero8 5)) := by
  obtain ⟨i0, hi, hz0, hz1, hz2⟩ := info_parts Try.info5
  have h := run_make (P := Try.prog) w 81 5 i0 (.int .u8 0) Try.underlying81 hi hz0 .i64 .i64 8 8 (by omega) (by omega) (by rw [hz2]; omega) (by omega)
  have h2 : madeCells (Value.int IntKind.u8 0).cells (Int.toNat 8 * 1) = zero8 := by kernel_rfl
  rw [h, hz1, h2]
  rfl
theorem low8_cells (n : Nat) : (#[.int .u8 ((n : Int) % 256), .int .u8 ((n : Int) / 256 % 256), .int .u8 ((n : Int) / 256 / 256 % 256), .int .u8 ((n : Int) / 256 / 256 / 256 % 256), .int .u8 ((n : Int) / 256 / 256 / 256 / 256 % 256), .int .u8 ((n : Int) / 256 / 256 / 256 / 256 / 256 % 256), .int .u8 ((n : Int) / 256 / 256 / 256 / 256 / 256 / 256 % 256), .int .u8 ((n : Int) / 256 / 256 / 256 / 256 / 256 / 256 / 256 % 256)] : Array Value) = (bs (lowN n 8)).toArray := by
  rw [low8]
  simp only [bs, List.map_cons, List.map_nil, UInt8.toNat_ofNat', Array.mk.injEq, List.cons.injEq, Value.int.injEq, true_and, and_true]
  omega
set_option maxHeartbeats 2000000 in
theorem num01_any (n : Nat) (w : World) (hn : n < 18446744073709551616) :
    Calls Try.prog 49 #[.int .u64 n, .bool false] w fun e w' => e = .returned (.string (B (lowN n 8))) ∧ Old w w' := by
  have hmk := run_make8
  go_enter Try.func49, Try.ntmps49
  go_wp2_with fail
  refine wp_loop_rounds 9 ?_
  iterate 8 (rw [rounds_succ]; go_wp2)
  rw [rounds_succ]
  go_upto_region 10 with (fail)
  rw [low8_cells]
  have hB := new_bk w 5 (bs (lowN n 8)).toArray
  have hO : Old w (w.alloc (.cells (bs (lowN n 8)).toArray 5)) := (Old.re _).al _
  generalize w.alloc (.cells (bs (lowN n 8)).toArray 5) = w1 at *
  have hcv : (convert 81 9 (.slice (some ⟨w.heap.size, 0, none⟩) 8 8)).run Try.prog w1 = .ok (.string (B (lowN n 8))) w1 := by
    have := Own.blk (l := lowN n 8) (Nat.le_refl _) hB (by rw [lowN_length]; omega)
    rw [lowN_length] at this
    exact run_str this
  go_wp2
  go_ret
  exact ⟨rfl, hO⟩
/-- A byte, and what is left; -1: there is none. -/
def firstF : List UInt8 → Int × List UInt8
  | [] => (-1, [])
  | b :: t => ((b.toNat : Int), t)
/-- A text with its length ahead, and what is left. -/
def takenF : List UInt8 → List UInt8 × List UInt8 × Bool
  | [] => ([], [], false)
  | b :: t => if t.length < b.toNat then ([], [], false) else (t.take b.toNat, t.drop b.toNat, true)
set_option maxHeartbeats 2000000 in
theorem first_any (s : List UInt8) (hs : s.length ≤ 10000000) (w : World) :
    Calls Try.prog 55 #[.string (B s)] w fun e w' => e = .returned (.tuple #[.int .i64 (firstF s).1, .string (B (firstF s).2)]) ∧ Old w w' := by
  cases s with
  | nil =>
    go_enter Try.func55, Try.ntmps55
    go_wp2
    go_ret2
    exact ⟨rfl, Old.re _⟩
  | cons b t =>
    have h0 : 0 < (b :: t).length := by simp
    have h1 : (1 : Int) ≤ ((b :: t).length : Int) := by simp only [List.length_cons]; omega
    have hb : b.toNat < 256 := b.toNat_lt
    have hw : IntKind.i64.wrap (b.toNat : Int) = (b.toNat : Int) := by rw [IntKind.wrap_i64]; omega
    have hx : (B (b :: t))[0]'(by simp [ByteArray.size]) = b := rfl
    have HE := Lib.hid (show (B (b :: t)).extract 1 (b :: t).length = B t by rw [ext_drop _ _ _ (Nat.le_refl _)]; rfl)
    have HF := Lib.hid (show firstF (b :: t) = ((b.toNat : Int), t) from rfl)
    go_enter Try.func55, Try.ntmps55
    go_wp2_with fail
    go_quiet (fail)
    have f8 : Old w (w.drewN nq) := (Old.re _).dn nq
    generalize w.drewN nq = w8 at *
    go_wp2
    go_ret2
    refine ⟨?_, f8⟩
    have := HE.out
    rw [List.length_cons] at this
    rw [this]
    rfl
set_option maxHeartbeats 2000000 in
theorem taken_any (s : List UInt8) (hs : s.length ≤ 10000000) (w : World) :
    Calls Try.prog 56 #[.string (B s)] w fun e w' => e = .returned (.tuple #[.string (B (takenF s).1), .string (B (takenF s).2.1), .bool (takenF s).2.2]) ∧ Old w w' := by
  have C := first_any s hs w
  cases s with
  | nil =>
    go_enter Try.func56, Try.ntmps56
    go_wp2_with fail
    refine C.mono ?_
    rintro e w1 ⟨rfl, o1⟩
    have HF : firstF [] = (-1, []) := rfl
    rw [HF]
    go_wp2
    refine bodyPost_ret (v := .tuple #[.string (B []), .string (B []), .bool false]) (by simp [results, Try.results56, go_sem]) rfl ⟨rfl, o1⟩
  | cons b t =>
    have hb : b.toNat < 256 := b.toNat_lt
    by_cases hlt : t.length < b.toNat
    · have hd : (t.length : Int) < (b.toNat : Int) := by omega
      have HT : Hid (takenF (b :: t) = ([], [], false)) := Lib.hid (if_pos hlt)
      go_enter Try.func56, Try.ntmps56
      go_wp2_with fail
      refine C.mono ?_
      rintro e w1 ⟨rfl, o1⟩
      have HF : firstF (b :: t) = ((b.toNat : Int), t) := rfl
      rw [HF]
      go_wp2
      refine bodyPost_ret (v := .tuple #[.string (B []), .string (B []), .bool false]) (by simp [results, Try.results56, go_sem]) rfl ⟨?_, o1⟩
      rw [HT.out]
    · have hd : ¬ ((t.length : Int) < (b.toNat : Int)) := by omega
      have hd2 : decide ((t.length : Int) < (b.toNat : Int)) = false := by simpa using hd
      have hle : (b.toNat : Int) ≤ (t.length : Int) := by omega
      have HT : Hid (takenF (b :: t) = (t.take b.toNat, t.drop b.toNat, true)) := Lib.hid (if_neg hlt)
      go_enter Try.func56, Try.ntmps56
      go_wp2_with fail
      refine C.mono ?_
      rintro e w1 ⟨rfl, o1⟩
      have HF : firstF (b :: t) = ((b.toNat : Int), t) := rfl
      rw [HF]
      go_wp2_with fail
      go_quiet (fail)
      have f8 : Old w (w1.drewN nq) := o1.dn nq
      generalize w1.drewN nq = w8 at *
      go_wp2
      rw [ext_take, ext_drop _ _ _ (Nat.le_refl _)]
      refine bodyPost_ret (v := .tuple #[.string (B (t.take b.toNat)), .string (B (t.drop b.toNat)), .bool true]) (by simp [results, Try.results56, go_sem]) rfl ⟨?_, f8⟩
      rw [HT.out]
theorem step_val (a b k : Nat) (ha : a < 256 ^ k) (hb : b < 256) (hk : k < 8) :
    IntKind.u64.wrap (IntKind.u64.wrap ((a : Int) * 256) + IntKind.u64.wrap (b : Int)) = ((b + 256 * a : Nat) : Int) := by
  have h7 : 256 ^ k ≤ 256 ^ 7 := Nat.pow_le_pow_right (by omega) (by omega)
  rw [wrap_u64_id b (by omega)]
  have e : ((a : Int) * 256) = ((256 * a : Nat) : Int) := by simp; omega
  rw [e, wrap_u64_id _ (by omega), ← Int.natCast_add, wrap_u64_id _ (by omega), Nat.add_comm]
theorem lowV_cons (b : UInt8) (l : List UInt8) : lowV (b :: l) = b.toNat + 256 * lowV l := rfl
theorem lowV_back {s : List UInt8} {j : Nat} (hj : j < 8) (hs : 8 ≤ s.length) : lowV ((s.take 8).drop j) = (s[j]'(by omega)).toNat + 256 * lowV ((s.take 8).drop (j + 1)) := by
  have hl : j < (s.take 8).length := by simp; omega
  rw [List.drop_eq_getElem_cons hl, lowV_cons, List.getElem_take]
set_option maxHeartbeats 2000000 in
theorem number13_any (s : List UInt8) (h8 : 8 ≤ s.length) (hs : s.length ≤ 10000000) (w : World) :
    Calls Try.prog 54 #[.string (B s)] w fun e w' => e = .returned (.int .u64 (lowV (s.take 8) : Nat)) ∧ w' = w := by
  go_enter Try.func54, Try.ntmps54
  go_wp2_with fail
  go_loop [3, 4] (fun n i => ∃ k : Nat, k ≤ 8 ∧ i = .int .i64 (7 - (k : Int)) ∧ n = .int .u64 (lowV ((s.take 8).drop (8 - k)) : Nat)) (fun _ i => (intOf i + 1).toNat)
  case atStart => exact ⟨0, by omega, rfl, by rw [List.drop_of_length_le (by simp; omega)]; rfl⟩
  case round =>
    obtain ⟨k, hk, rfl, rfl⟩ := hrel
    by_cases hlt : k < 8
    · obtain ⟨j, hj⟩ : ∃ j, j = 7 - k := ⟨_, rfl⟩
      have e1 : 7 - (k : Int) = (j : Int) := by omega
      have hjs : j < s.length := by omega
      rw [e1]
      have hd : decide ((0 : Int) ≤ (j : Int)) = true := by simp
      have hx : (B s)[j]'(by simpa [ByteArray.size] using hjs) = s[j] := rfl
      have hj8 : j < 8 := by omega
      have HX := Lib.hid (lowV_back (s := s) (j := j) hj8 h8)
      have hl1 := lowV_lt ((s.take 8).drop (j + 1))
      have hl2 : ((s.take 8).drop (j + 1)).length = k := by simp; omega
      rw [hl2] at hl1
      have HV := Lib.hid (step_val _ s[j].toNat k hl1 s[j].toNat_lt (by omega))
      have e3 : 8 - k = j + 1 := by omega
      have e4 : 8 - (k + 1) = j := by omega
      rw [e3]
      clear hl1 hl2
      generalize lowV ((s.take 8).drop (j + 1)) = a at *
      have HJ := Lib.hid hj
      clear hj e3
      go_wp2
      go_round
      case rel =>
        refine ⟨k + 1, by omega, ?_, ?_⟩
        · have := HJ.out
          congr 1
          omega
        · rw [e4, HX.out, ← HV.out]
      case measure => simp [intOf]
    · obtain rfl : k = 8 := by omega
      have e : (7 : Int) - ((8 : Nat) : Int) = -1 := by decide
      rw [e]
      go_wp2
      go_ret
      exact ⟨ret_int (by simp), rfl⟩
end Go.Proofs.Yteglddggjkibcaa
