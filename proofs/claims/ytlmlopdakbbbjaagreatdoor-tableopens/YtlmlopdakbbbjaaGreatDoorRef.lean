/-
  The reference's parts of keys: name, Number, value, part. Conditions: lengths as written.
-/
import Derived.Test.YtlmlopdakbbbjaaGreatDoorKeyBack
namespace Go.Proofs.YtlmlopdakbbbjaaGreatDoor
open Go.RowKit

/-- A block of bytes that the call made, as a slice over all of it. -/
theorem Own.blk {w : World} {base g : Nat} {l : List UInt8} (hb : base ≤ g) (h : Bk w g 5 (bs l).toArray) (hl : l.length ≤ 1000000) : Own w base (.slice (some ⟨g, 0, none⟩) l.length l.length) l := by
  refine ⟨by simp [bs_length], .inr ⟨g, l.length, (bs l).toArray, rfl, hb, h, Nat.le_refl _, by unfold maxLen; omega, by simp [bs_length], ?_⟩⟩
  simp only [Nat.mul_one]
  rw [List.take_of_length_le (by simp [bs_length])]

set_option maxHeartbeats 1000000 in
theorem rname_any (t : List UInt8) (w : World) (ht : t.length ≤ 1000000) :
    Calls Tryz.prog 86 #[.string (B t)] w fun e w' => e = .returned (.string (B (marks t ++ [0, 1]))) ∧ Old w w' := by
  go_enter Tryz.func86, Tryz.ntmps86
  go_wp2_with fail
  go_loopw [3, 4] (fun v i wr => ∃ k : Nat, k ≤ t.length ∧ i = .int .i64 k ∧ Own wr w.heap.size v (marks (t.take k)) ∧ Old w wr) (fun _ i _ => t.length - (intOf i).toNat)
  case atStart => exact ⟨0, Nat.zero_le _, rfl, Own.blk (l := []) (Nat.le_refl _) (new_bk w _ _) (by simp), (Old.re _).al _⟩
  case round =>
    obtain ⟨k, hk, rfl, ho, hbw⟩ := hrel
    have hbr := hbw.size
    have hml := marks_take_le t k
    by_cases hlt : k < t.length
    · have hix : (B t)[k]'(by simpa [ByteArray.size] using hlt) = t[k] := rfl
      have HS := Lib.hid (marks_snoc t k hlt)
      by_cases hz : t[k] = 0
      · go_wp2_with (first
          | (at_builtin; refine wp_app rfl (.tmp 12) (.tmp 16) rfl rfl (ho.alloc _) [t[k]] wr.heap.size 1 1 rfl rfl (new_row1 _ _ _ (by first | rfl | simp [hz])) (by simp; omega) (by simp; omega) ?_; intro v1 w1 ho1 hbl1 hb1)
          | (at_builtin; refine wp_app rfl (.tmp 22) (.tmp 23) rfl rfl (ho1.alloc _) [255] w1.heap.size 1 1 rfl rfl (new_row1 _ _ _ rfl) (by simp; omega) (by simp; omega) ?_; intro v2 w2 ho2 hbl2 hb2))
        go_roundw
        case rel =>
          refine ⟨k + 1, by omega, by go_num, ?_, ((hbw.al _).trans hbl1 |>.alloc hb1 _).trans hbl2⟩
          rw [HS.out, mark1, if_pos hz]
          simpa [hz] using ho2
        case measure => simp [intOf]; omega
      · have hz2 : ((t[k].toNat : Int) == 0) = false := by
          rw [beq_eq_false_iff_ne]
          intro e
          exact hz (UInt8.toNat_inj.1 (by simpa using e))
        go_wp2_with (first
          | (at_builtin; refine wp_app rfl (.tmp 12) (.tmp 16) rfl rfl (ho.alloc _) [t[k]] wr.heap.size 1 1 rfl rfl (new_row1 _ _ _ (by first | rfl | simp [hz])) (by simp; omega) (by simp; omega) ?_; intro v1 w1 ho1 hbl1 hb1)
          | fail)
        go_roundw
        case rel =>
          refine ⟨k + 1, by omega, by go_num, ?_, (hbw.al _).trans hbl1⟩
          rw [HS.out, mark1, if_neg hz]
          exact ho1
        case measure => simp [intOf]; omega
    · have hml2 := marks_le t
      have hkl : k = t.length := by omega
      subst hkl
      rw [List.take_length] at ho
      go_wp2_with (at_builtin; refine wp_app rfl (.tmp 25) (.tmp 26) rfl rfl (ho.alloc _) [0, 1] wr.heap.size 2 2 rfl rfl (new_row _ _ _) (by simp; omega) (by simp; omega) ?_; intro v1 w1 ho1 hbl1 hb1; have hcv := run_str ho1)
      go_ret
      exact ⟨rfl, (hbw.al _).trans hbl1⟩

abbrev zero8 : Array Value := #[.int .u8 0, .int .u8 0, .int .u8 0, .int .u8 0, .int .u8 0, .int .u8 0, .int .u8 0, .int .u8 0]
theorem run_make8 (w : World) : (Instr.makeSlice 56 (.int .i64 8) (.int .i64 8)).run Tryz.prog w = .ok (.slice (some ⟨w.heap.size, 0, none⟩) 8 8) (w.alloc (.cells zero8 5)) := by
  obtain ⟨i0, hi, hz0, hz1, hz2⟩ := info_parts Tryz.info5
  have h := run_make (P := Tryz.prog) w 56 5 i0 (.int .u8 0) Tryz.underlying56 hi hz0 .i64 .i64 8 8 (by omega) (by omega) (by rw [hz2]; omega) (by omega)
  have h2 : madeCells (Value.int IntKind.u8 0).cells (Int.toNat 8 * 1) = zero8 := by kernel_rfl
  rw [h, hz1, h2]
  rfl

theorem low8_cells (n : Nat) : (#[.int .u8 ((n : Int) % 256), .int .u8 ((n : Int) / 256 % 256), .int .u8 ((n : Int) / 256 / 256 % 256), .int .u8 ((n : Int) / 256 / 256 / 256 % 256), .int .u8 ((n : Int) / 256 / 256 / 256 / 256 % 256), .int .u8 ((n : Int) / 256 / 256 / 256 / 256 / 256 % 256), .int .u8 ((n : Int) / 256 / 256 / 256 / 256 / 256 / 256 % 256), .int .u8 ((n : Int) / 256 / 256 / 256 / 256 / 256 / 256 / 256 % 256)] : Array Value) = (bs (low8 n)).toArray := by
  simp only [bs, low8, List.map_cons, List.map_nil, UInt8.toNat_ofNat', Array.mk.injEq, List.cons.injEq, Value.int.injEq, true_and, and_true]
  omega
theorem high8_cells (n : Nat) : (#[.int .u8 ((n : Int) / 256 / 256 / 256 / 256 / 256 / 256 / 256 % 256), .int .u8 ((n : Int) / 256 / 256 / 256 / 256 / 256 / 256 % 256), .int .u8 ((n : Int) / 256 / 256 / 256 / 256 / 256 % 256), .int .u8 ((n : Int) / 256 / 256 / 256 / 256 % 256), .int .u8 ((n : Int) / 256 / 256 / 256 % 256), .int .u8 ((n : Int) / 256 / 256 % 256), .int .u8 ((n : Int) / 256 % 256), .int .u8 ((n : Int) % 256)] : Array Value) = (bs (high8 n)).toArray := by
  simp only [bs, high8, List.map_cons, List.map_nil, UInt8.toNat_ofNat', Array.mk.injEq, List.cons.injEq, Value.int.injEq, true_and, and_true]
  omega

def num8 (n : Nat) (h : Bool) : List UInt8 := if h then high8 n else low8 n

set_option maxHeartbeats 2000000 in
theorem rnumber_any (n : Nat) (h : Bool) (w : World) (hn : n < 18446744073709551616) :
    Calls Tryz.prog 32 #[.int .u64 n, .bool h] w fun e w' => e = .returned (.string (B (num8 n h))) ∧ Old w w' := by
  have hmk := run_make8
  cases h
  · go_enter Tryz.func32, Tryz.ntmps32
    go_wp2_with fail
    refine wp_loop_rounds 9 ?_
    iterate 8 (rw [rounds_succ]; go_wp2)
    rw [rounds_succ]
    go_upto_region 10 with (fail)
    rw [low8_cells]
    have hB := new_bk w 5 (bs (low8 n)).toArray
    have hO : Old w (w.alloc (.cells (bs (low8 n)).toArray 5)) := (Old.re _).al _
    generalize w.alloc (.cells (bs (low8 n)).toArray 5) = w1 at *
    have hcv : (convert 56 9 (.slice (some ⟨w.heap.size, 0, none⟩) 8 8)).run Tryz.prog w1 = .ok (.string (B (low8 n))) w1 := run_str (Own.blk (l := low8 n) (Nat.le_refl _) hB (by simp [low8]))
    go_wp2
    go_ret
    exact ⟨rfl, hO⟩
  · go_enter Tryz.func32, Tryz.ntmps32
    go_wp2_with fail
    refine wp_loop_rounds 9 ?_
    iterate 8 (rw [rounds_succ]; go_wp2)
    rw [rounds_succ]
    go_upto_region 10 with (fail)
    rw [high8_cells]
    have hB := new_bk w 5 (bs (high8 n)).toArray
    have hO : Old w (w.alloc (.cells (bs (high8 n)).toArray 5)) := (Old.re _).al _
    generalize w.alloc (.cells (bs (high8 n)).toArray 5) = w1 at *
    have hcv : (convert 56 9 (.slice (some ⟨w.heap.size, 0, none⟩) 8 8)).run Tryz.prog w1 = .ok (.string (B (high8 n))) w1 := run_str (Own.blk (l := high8 n) (Nat.le_refl _) hB (by simp [high8]))
    go_wp2
    go_ret
    exact ⟨rfl, hO⟩

theorem step_val (a b k : Nat) (ha : a < 256 ^ k) (hb : b < 256) (hk : k < 8) :
    IntKind.u64.wrap (IntKind.u64.wrap ((a : Int) * 256) + IntKind.u64.wrap (b : Int)) = ((a * 256 + b : Nat) : Int) := by
  have h7 : 256 ^ k ≤ 256 ^ 7 := Nat.pow_le_pow_right (by omega) (by omega)
  rw [wrap_u64_id b (by omega)]
  have e : ((a : Int) * 256) = ((a * 256 : Nat) : Int) := by simp
  rw [e, wrap_u64_id _ (by omega), ← Int.natCast_add, wrap_u64_id _ (by omega)]

set_option maxHeartbeats 2000000 in
theorem rvalue_high (s : List UInt8) (w : World) (hs : 8 ≤ s.length) (hl : s.length ≤ 1000000) :
    Calls Tryz.prog 96 #[.string (B s), .bool true] w fun e w' => e = .returned (.int .u64 (highV (s.take 8))) ∧ w = w' := by
  go_enter Tryz.func96, Tryz.ntmps96
  go_wp2
  go_loop [5, 6] (fun n i => ∃ k : Nat, k ≤ 8 ∧ i = .int .i64 k ∧ n = .int .u64 (highV (s.take k))) (fun _ i => 8 - (intOf i).toNat)
  case atStart => exact ⟨0, Nat.zero_le _, rfl, rfl⟩
  case round =>
    obtain ⟨k, hk, rfl, rfl⟩ := hrel
    by_cases hlt : k < 8
    · have hI : decide ((k : Int) < 8) = true := by simp; omega
      have hks : k < s.length := by omega
      go_wp2
      go_round
      case rel =>
        refine ⟨k + 1, by omega, by go_num, ?_⟩
        congr 1
        have hl1 := highV_lt (s.take k)
        have hl2 : (s.take k).length = k := by simp; omega
        rw [hl2] at hl1
        refine (step_val _ (s[k].toNat) k hl1 s[k].toNat_lt (by omega)).trans ?_
        rw [List.take_succ_eq_append_getElem hks, highV_snoc]
      case measure => simp [intOf]; omega
    · have hI : decide ((k : Int) < 8) = false := by simp; omega
      go_wp2
      go_ret
      refine ⟨ret_int ?_, rfl⟩
      rw [show k = 8 by omega]

/-- A name at the beginning of a key, and how many bytes it takes. -/
def partV (s : List UInt8) : Value := match cutM s with
  | some x => .tuple #[.string (B x.1), .int .i64 ((s.length - x.2.length : Nat) : Int)]
  | none => .tuple #[.string ⟨#[]⟩, .int .i64 0]

set_option maxHeartbeats 4000000 in
theorem rpart_any (s : List UInt8) (w : World) (hs : s.length ≤ 1000000) :
    Calls Tryz.prog 95 #[.string (B s)] w fun e w' => e = .returned (partV s) ∧ Old w w' := by
  go_enter Tryz.func95, Tryz.ntmps95
  go_wp2_with fail
  go_loopw [4, 5] (fun v i wr => ∃ (k : Nat) (r : List UInt8), k ≤ s.length ∧ r.length ≤ k ∧ i = .int .i64 k ∧ Own wr w.heap.size v r ∧ Old w wr ∧ Hid (cutM s = after r (cutM (s.drop k)))) (fun _ i _ => s.length - (intOf i).toNat)
  case atStart => exact ⟨0, [], Nat.zero_le _, Nat.le_refl _, rfl, Own.blk (l := []) (Nat.le_refl _) (new_bk w _ _) (by simp), (Old.re _).al _, Lib.hid (by rw [after_nil]; rfl)⟩
  case round =>
    obtain ⟨k, r, hk, hr, rfl, ho, hw, HC⟩ := hrel
    have hsz := hw.size
    by_cases h0 : k < s.length
    · have hI0 : decide ((k : Int) < s.length) = true := by simp; omega
      have HD0 := Lib.hid (show s.drop k = s[k] :: s.drop (k + 1) from List.drop_eq_getElem_cons (by omega))
      have i0 : (B s)[k]'(by simp [ByteArray.size]; omega) = s[k] := rfl
      by_cases hz : s[k] = 0
      · by_cases h1 : k + 1 < s.length
        · have hI : ((k : Int) + 1 == s.length) = false := by rw [beq_eq_false_iff_ne]; omega
          have HD1 := Lib.hid (show s.drop (k + 1) = s[k + 1] :: s.drop (k + 2) from List.drop_eq_getElem_cons (by omega))
          have i1 : (B s)[k + 1]'(by simp [ByteArray.size]; omega) = s[k + 1] := rfl
          generalize hb1 : s[k + 1] = b1 at *
          generalize hb0 : s[k] = b0 at *
          clear hb0 hb1
          subst hz
          by_cases h1b : b1 = 1
          · subst h1b
            have hcv := run_str ho
            have HV := Lib.hid (show partV s = .tuple #[.string (B r), .int .i64 ((k : Int) + 2)] by
              unfold partV; rw [HC.out, HD0.out, HD1.out, cutM_end]
              simp [after]
              omega)
            go_wp2
            go_ret2
            refine ⟨?_, hw⟩
            rw [HV.out]
            rfl
          · have h3 : ((b1.toNat : Int) == 1) = false := by
              have : b1.toNat ≠ 1 := fun e => h1b (UInt8.toNat_inj.1 e)
              rw [beq_eq_false_iff_ne]; omega
            by_cases h255 : b1 = 255
            · subst h255
              go_wp2_with (at_builtin; refine wp_app rfl (.tmp 42) (.tmp 43) rfl rfl (ho.alloc _) [0] wr.heap.size 1 1 rfl rfl (new_row _ _ _) (by simp; omega) (by simp; omega) ?_; intro v1 w1 ho1 hbl1 hb1)
              go_roundw
              case rel => exact ⟨k + 2, r ++ [0], by omega, by simp; omega, by go_num, ho1, (hw.al _).trans hbl1, Lib.hid (by rw [HC.out, HD0.out, HD1.out, after_zero])⟩
              case measure => simp [intOf]; omega
            · have h2 : ((b1.toNat : Int) != 255) = true := by
                have : b1.toNat ≠ 255 := fun e => h255 (UInt8.toNat_inj.1 e)
                rw [bne_iff_ne]; omega
              have HV := Lib.hid (show partV s = .tuple #[.string ⟨#[]⟩, .int .i64 0] by
                unfold partV; rw [HC.out, HD0.out, HD1.out, cutM_bad _ _ h255 h1b]; rfl)
              go_wp2
              go_ret2
              exact ⟨by rw [HV.out]; rfl, hw⟩
        · have hI : ((k : Int) + 1 == s.length) = true := by rw [beq_iff_eq]; omega
          have HV := Lib.hid (show partV s = .tuple #[.string ⟨#[]⟩, .int .i64 0] by
            unfold partV; rw [HC.out, cutM_one _ (by simp; omega)]; rfl)
          go_wp2
          go_ret2
          exact ⟨by rw [HV.out]; rfl, hw⟩
      · generalize hb0 : s[k] = b0 at *
        clear hb0
        have hz2 : ((b0.toNat : Int) != 0) = true := by
          rw [bne_iff_ne]; intro e
          exact hz (UInt8.toNat_inj.1 (by simpa using e))
        go_wp2_with (at_builtin; refine wp_app rfl (.tmp 17) (.tmp 21) rfl rfl (ho.alloc _) [b0] wr.heap.size 1 1 rfl rfl (new_row1 _ _ _ rfl) (by simp; omega) (by simp; omega) ?_; intro v1 w1 ho1 hbl1 hb1)
        go_roundw
        case rel => exact ⟨k + 1, r ++ [b0], by omega, by simp; omega, by go_num, ho1, (hw.al _).trans hbl1, Lib.hid (by rw [HC.out, HD0.out, after_byte _ _ _ hz])⟩
        case measure => simp [intOf]; omega
    · have HV := Lib.hid (show partV s = .tuple #[.string ⟨#[]⟩, .int .i64 0] by
        unfold partV; rw [HC.out, cutM_one _ (by simp; omega)]; rfl)
      have hI : decide ((k : Int) < s.length) = false := by simp; omega
      go_wp2_with fail
      go_ret2
      exact ⟨by rw [HV.out]; rfl, hw⟩

/-- What the reference's Key answers. -/
def rkeyB (c : Cel) : List UInt8 := if mayB c then key c else []

theorem six_held {w W : World} {c : Cel} (h : Bk W w.heap.size 34 (cells c) ∧ Old w W) :
    (Bk W w.heap.size 34 (cells c) ∧ Old w W) ∧ W.cell? ⟨w.heap.size, 0, none⟩ = some (.string (B c.row)) ∧ W.cell? ⟨w.heap.size, 1, none⟩ = some (.string (B c.col)) ∧ W.cell? ⟨w.heap.size, 2, none⟩ = some (.int .u64 c.ts) ∧ W.cell? ⟨w.heap.size, 3, none⟩ = some (.int .u64 c.seq) := by
  obtain ⟨a0, a1, a2, a3, a4, a5⟩ := h.1.six
  exact ⟨h, a0, a1, a2, a3⟩
theorem six_old {w W W' : World} {c : Cel} (h : Bk W w.heap.size 34 (cells c) ∧ Old w W) (k : Old W W') : Bk W' w.heap.size 34 (cells c) ∧ Old w W' := ⟨h.1.old k, h.2.tr k⟩

set_option maxRecDepth 100000 in
set_option maxHeartbeats 4000000 in
theorem rkey_any (c : Cel) (w : World) (hok : c.ok) :
    Calls Tryz.prog 58 #[cv c] w fun e w' => e = .returned (.string (B (rkeyB c))) ∧ Old w w' := by
  obtain ⟨ht, hs⟩ := hok
  go_enter Tryz.func58, Tryz.ntmps58
  go_wp2_with fail
  have f0 : Bk (w.alloc (.cells (cells c) 34)) w.heap.size 34 (cells c) ∧ Old w (w.alloc (.cells (cells c) 34)) := ⟨new_bk _ _ _, (Old.re _).al _⟩
  refine (rmay_any c _).mono ?_
  rintro r w1 ⟨rfl, h1⟩
  have f1 := six_old f0 h1
  clear f0 h1
  cases hm : mayB c
  · have HV := Lib.hid (show rkeyB c = [] by simp [rkeyB, hm])
    go_wp2
    go_ret
    exact ⟨by rw [HV.out]; rfl, f1.2⟩
  · have HV := Lib.hid (show rkeyB c = key c by simp [rkeyB, hm])
    obtain ⟨q1, q2, q3, q4, q5⟩ := mayB_parts hm
    have m1 := marks_le40 _ q2
    have m2 := marks_le40 _ q4
    have n1 := neg_lt c.ts
    have n2 := neg_lt c.seq
    have e1 : IntKind.u64.wrap (18446744073709551615 - (c.ts : Int)) = ((neg64 c.ts : Nat) : Int) := by unfold neg64; rw [IntKind.wrap_u64]; omega
    have e2 : IntKind.u64.wrap (18446744073709551615 - (c.seq : Int)) = ((neg64 c.seq : Nat) : Int) := by unfold neg64; rw [IntKind.wrap_u64]; omega
    have c1 := Lib.hid (fun W => rname_any c.row W (by omega))
    have c2 := Lib.hid (fun W => rname_any c.col W (by omega))
    have c3 := Lib.hid (fun W => rnumber_any (neg64 c.ts) true W n1)
    have c4 := Lib.hid (fun W => rnumber_any (neg64 c.seq) true W n2)
    have l1 : (marks c.row ++ [0, 1]).length ≤ 100 := by simp; omega
    have l2 : (marks c.col ++ [0, 1]).length ≤ 100 := by simp; omega
    have l3 : (num8 (neg64 c.ts) true).length ≤ 100 := by simp [num8, high8]
    have l4 : (num8 (neg64 c.seq) true).length ≤ 100 := by simp [num8, high8]
    have HK := Lib.hid (show key c = (marks c.row ++ [0, 1]) ++ (marks c.col ++ [0, 1]) ++ num8 (neg64 c.ts) true ++ num8 (neg64 c.seq) true by simp [key, num8])
    generalize marks c.row ++ [0, 1] = x1 at *
    generalize marks c.col ++ [0, 1] = x2 at *
    generalize num8 (neg64 c.ts) true = x3 at *
    generalize num8 (neg64 c.seq) true = x4 at *
    have d1 : ¬ (9223372036854775807 < x1.length + x2.length) := by omega
    have d2 : ¬ (9223372036854775807 < x1.length + x2.length + x3.length) := by omega
    have d3 : ¬ (9223372036854775807 < x1.length + x2.length + x3.length + x4.length) := by omega
    clear ht hs m1 m2 l1 l2 l3 l4 q1 q2 q3 q4 q5 n1 n2 hm
    go_wp2_with fail
    go_region_held3 (fun W => (Bk W w.heap.size 34 (cells c) ∧ Old w W) ∧ W.cell? ⟨w.heap.size, 0, none⟩ = some (.string (B c.row)) ∧ W.cell? ⟨w.heap.size, 1, none⟩ = some (.string (B c.col)) ∧ W.cell? ⟨w.heap.size, 2, none⟩ = some (.int .u64 c.ts) ∧ W.cell? ⟨w.heap.size, 3, none⟩ = some (.int .u64 c.seq)) (first | exact six_held (six_old (And.left (by assumption)) (by assumption)) | exact six_held (six_old f1 (Old.re _).dr) | exact six_held (And.left (by assumption)))
      (first
        | (go_at_call 86; with_reducible refine (c1.out _).mono ?_; rintro r w20 ⟨rfl, h20⟩)
        | (go_at_call 86; with_reducible refine (c2.out _).mono ?_; rintro r w21 ⟨rfl, h21⟩)
        | (go_at_call 32; with_reducible refine (c3.out _).mono ?_; rintro r w22 ⟨rfl, h22⟩)
        | (go_at_call 32; with_reducible refine (c4.out _).mono ?_; rintro r w23 ⟨rfl, h23⟩))
    have f9 : Bk _ w.heap.size 34 (cells c) ∧ Old w _ := And.left (by assumption)
    go_wp2
    go_ret
    refine ⟨?_, f9.2⟩
    rw [HV.out, HK.out, ← add_B, ← add_B, ← add_B]
    rfl
end Go.Proofs.YtlmlopdakbbbjaaGreatDoor
