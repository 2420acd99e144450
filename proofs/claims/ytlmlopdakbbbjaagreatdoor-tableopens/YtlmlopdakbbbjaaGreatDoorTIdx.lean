/-
  The index, and the foot: indexOf and text of table. Conditions: the table is laid; lengths as written.
-/
import Derived.Test.YtlmlopdakbbbjaaGreatDoorTBks
namespace Go.Proofs.YtlmlopdakbbbjaaGreatDoor
open Go.RowKit

theorem u64_id (n : Nat) (h : n < 1000000000000) : IntKind.u64.wrap (n : Int) = (n : Int) := by rw [IntKind.wrap_u64]; omega
theorem idx_take (ts : List (List UInt8)) (k : Nat) (h : k < ts.length) : ((ts.take (k + 1)).map fun t => lowN t.length 4).flatten = ((ts.take k).map fun t => lowN t.length 4).flatten ++ lowN ts[k].length 4 := by
  rw [List.take_succ_eq_append_getElem h, List.map_append, List.flatten_append]
  simp only [List.map_cons, List.map_nil, List.flatten_cons, List.flatten_nil, List.append_nil]
theorem idx_part (ts : List (List UInt8)) : ((ts.map fun t => lowN t.length 4).flatten).length = 4 * ts.length := by
  induction ts with
  | nil => rfl
  | cons t ts ih => simp only [List.map_cons, List.flatten_cons, List.length_append, List.length_cons, ih, lowN_length]; omega

set_option maxRecDepth 100000 in
set_option maxHeartbeats 4000000 in
theorem indexOf_any (ts : List (List UInt8)) (A : Option Addr) (cap : Nat) (w : World) (hS : Strs w A cap ts) (hl : ts.length ≤ 1000) (hls : ∀ t ∈ ts, t.length ≤ 100000) (ht : Tab w) :
    Calls Tryz.prog 22 #[.slice A ts.length cap] w fun e w' => e = .returned (.string (B (idx ts))) ∧ Old w w' := by
  have hu := u64_id ts.length (by omega)
  go_enter Tryz.func22, Tryz.ntmps22
  go_wp2_with fail
  refine (appNum_any w.heap.size (.slice none 0 0) [] ts.length 2 (by omega) (by omega) _ (Own.nil _ _) (Nat.le_refl _) (by simp)).mono ?_
  rintro e w1 ⟨v1, rfl, h1, k1, -⟩
  rw [List.nil_append] at h1
  go_wp2_with fail
  go_loopw [3, 12] (fun vb i wr => ∃ k : Nat, k ≤ ts.length ∧ i = .int .i64 k ∧ Own wr w.heap.size vb (lowN ts.length 2 ++ ((ts.take k).map fun t => lowN t.length 4).flatten) ∧ Old w wr) (fun _ i _ => ts.length - (intOf i).toNat)
  case atStart => exact ⟨0, Nat.zero_le _, rfl, by simpa using h1, k1⟩
  case round =>
    obtain ⟨k, hk, rfl, ho, hw⟩ := hrel
    have hpl := idx_part (ts.take k)
    rw [List.length_take] at hpl
    have h2 := lowN_length ts.length 2
    by_cases hlt : k < ts.length
    · obtain ⟨-, b, off, rfl, hc⟩ := (hS.old hw).at_ k hlt
      have HT := Lib.hid (idx_take ts k hlt)
      have hx := hls _ (List.getElem_mem hlt)
      generalize ts[k] = x at *
      have i1 : (k : Int) < (ts.length : Int) := by omega
      have hu2 := u64_id x.length (by omega)
      go_wp2_with fail
      refine (appNum_any w.heap.size _ _ x.length 4 (by omega) (by omega) _ ho hw.size (by rw [List.length_append]; omega)).mono ?_
      rintro e w2 ⟨v2, rfl, n2, k2, -⟩
      go_wp2
      go_roundw
      case rel => exact ⟨k + 1, by omega, by go_num, by rw [HT.out, ← List.append_assoc]; exact n2, hw.trans k2⟩
      case measure => simp [intOf]; omega
    · have e : k = ts.length := by omega
      subst e
      rw [List.take_length] at ho hpl
      have hcv := run_str ho
      have hall : (lowN ts.length 2 ++ (ts.map fun t => lowN t.length 4).flatten).length ≤ 65535 := by rw [List.length_append]; omega
      go_wp2_with fail
      refine (tput_any _ hall _ (ht.old hw)).mono ?_
      rintro e w2 ⟨rfl, k2⟩
      go_wp2
      go_ret
      exact ⟨rfl, hw.tr k2⟩

theorem fidx0 (a b c : Value) (w : World) : (Instr.index 95 (.agg #[a, b, c]) (.int .i64 0)).run Tryz.prog w = .ok a w := by kernel_rfl
theorem fidx1 (a b c : Value) (w : World) : (Instr.index 95 (.agg #[a, b, c]) (.int .i64 1)).run Tryz.prog w = .ok b w := by kernel_rfl
theorem fidx2 (a b c : Value) (w : World) : (Instr.index 95 (.agg #[a, b, c]) (.int .i64 2)).run Tryz.prog w = .ok c w := by kernel_rfl

set_option maxRecDepth 100000 in
set_option maxHeartbeats 4000000 in
theorem text_any (a b c s : Nat) (ha : a < 18446744073709551616) (hb : b < 18446744073709551616) (hc : c < 18446744073709551616) (hs : s < 18446744073709551616) (w : World) (ht : Tab w) :
    Calls Tryz.prog 24 #[.agg #[.int .u64 a, .int .u64 b, .int .u64 c, .int .u64 s]] w fun e w' => e = .returned (.string (B (ftx a b c s))) ∧ Old w w' := by
  have x0 := fun w => fidx0 (.int .u64 a) (.int .u64 b) (.int .u64 c) w
  have x1 := fun w => fidx1 (.int .u64 a) (.int .u64 b) (.int .u64 c) w
  have x2 := fun w => fidx2 (.int .u64 a) (.int .u64 b) (.int .u64 c) w
  have hB := new_bk w 52 #[.int .u64 (a : Int), .int .u64 (b : Int), .int .u64 (c : Int), .int .u64 (s : Int)]
  have o1 := old_alloc w (.cells #[.int .u64 (a : Int), .int .u64 (b : Int), .int .u64 (c : Int), .int .u64 (s : Int)] 52)
  go_enter Tryz.func24, Tryz.ntmps24
  go_wp2_with fail
  refine wp_loop_rounds 4 ?_
  rw [rounds_succ]
  go_wp2_with fail
  generalize w.alloc (.cells #[.int .u64 (a : Int), .int .u64 (b : Int), .int .u64 (c : Int), .int .u64 (s : Int)] 52) = w1 at *
  have hg := hB.lt
  refine (appNum_any w1.heap.size (.slice none 0 0) [] a 4 ha (by omega) _ (Own.nil _ _) (Nat.le_refl _) (by simp)).mono ?_
  rintro e w2 ⟨v2, rfl, h2, k2, z2⟩
  go_wp2_with fail
  rw [rounds_succ]
  go_wp2_with fail
  refine (appNum_any w1.heap.size v2 _ b 4 hb (by omega) _ h2 z2 (by simp [lowN_length])).mono ?_
  rintro e w3 ⟨v3, rfl, h3, k3, z3⟩
  go_wp2_with fail
  rw [rounds_succ]
  go_wp2_with fail
  refine (appNum_any w1.heap.size v3 _ c 4 hc (by omega) _ h3 z3 (by simp [lowN_length])).mono ?_
  rintro e w4 ⟨v4, rfl, h4, k4, z4⟩
  go_wp2_with fail
  rw [rounds_succ]
  have k5 := (k2.trans k3).trans k4
  obtain hB5 := hB.old k5
  have hc3 := hB5.cell 3
  clear k2 k3 k4 hB x0 x1 x2 h2 h3
  go_wp2_with fail
  refine (appNum_any w1.heap.size v4 _ s 8 hs (by omega) _ h4 z4 (by simp [lowN_length])).mono ?_
  rintro e w6 ⟨v6, rfl, h6, k6, z6⟩
  have hcv := run_str h6
  have o6 := o1.tr (k5.trans k6)
  go_wp2_with fail
  refine (tput_any _ (by simp [lowN_length]) _ (ht.old o6)).mono ?_
  rintro e w7 ⟨rfl, k7⟩
  go_wp2
  go_ret
  exact ⟨rfl, o6.tr k7⟩
end Go.Proofs.YtlmlopdakbbbjaaGreatDoor
