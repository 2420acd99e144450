/-
  The document's own answer: Make, SameInts. Conditions: lengths as written.
-/
import Derived.Test.YtphonnihibikcaaDoorRefMay
namespace Go.Proofs.YtphonnihibikcaaDoor
open Go.RowKit

/-- Bools as cells. -/
def bls (l : List Bool) : List Value := l.map Value.bool
theorem Tryd.info4 : (Tryd.prog.info? 4).map (fun i => (i.zero, i.size, i.bytes)) = some (some (.bool false), 1, 1) := by kernel_rfl
/-- Which of the first n numbers are among these. -/
def marks (n : Nat) (ps : List Nat) : List Bool := (List.range n).map fun i => ps.contains i
theorem marks_length (n : Nat) (ps : List Nat) : (marks n ps).length = n := by simp [marks]
theorem marks_nil (n : Nat) : marks n [] = List.replicate n false := by
  apply List.ext_getElem (by simp [marks])
  intro i h1 h2
  simp [marks]
theorem marks_at (n : Nat) (ps : List Nat) (i : Nat) (h : i < n) : (marks n ps)[i]? = some (ps.contains i) := by simp [marks, h]
theorem marks_set (n : Nat) (ps : List Nat) (p : Nat) : (marks n ps).set p true = marks n (ps ++ [p]) := by
  apply List.ext_getElem (by simp [marks])
  intro i h1 h2
  have hi : i < n := by simpa [marks] using h1
  by_cases e : p = i
  · subst e
    simp [marks]
  · rw [List.getElem_set_ne e]
    have : ¬ i = p := fun h => e h.symm
    simp [marks, this]
/-- A block that holds these bools. -/
def RowB (w : World) (g : Nat) (l : List Bool) : Prop := w.heap[g]? = some (.cells (bls l).toArray 4 (0, 0))
theorem RowB.cell {w : World} {g : Nat} {l : List Bool} (h : RowB w g l) (i : Nat) (b : Bool) (hi : l[i]? = some b) : w.cell? ⟨g, i, none⟩ = some (.bool b) := by
  rw [cell_of_row w g i _ _ _ h]
  simp [bls, hi]
theorem RowB.free {w : World} {g : Nat} {l : List Bool} (h : RowB w g l) (i : Nat) : w.frozen? ⟨g, i, none⟩ = false := by simp [World.frozen?, show w.heap[g]? = _ from h]
theorem RowB.set {w : World} {g : Nat} {l : List Bool} (h : RowB w g l) (i : Nat) (b : Bool) : RowB (w.setCell ⟨g, i, none⟩ (.bool b)) g (l.set i b) := by
  have := heap_setCell_same w g i _ _ (.bool b) h
  unfold RowB
  rw [this]
  simp [bls, List.map_set]
theorem RowB.lt {w : World} {g : Nat} {l : List Bool} (h : RowB w g l) : g < w.heap.size := lt_of_block h
theorem RowB.old {w W : World} {g : Nat} {l : List Bool} (h : RowB w g l) (k : Old w W) : RowB W g l := (k.block g h.lt).trans h
theorem Row.old {w W : World} {g : Nat} {l : List UInt8} (h : Row w g l) (k : Old w W) : Row W g l := (k.block g (lt_of_block h)).trans h
/-- make([]bool, n). -/
theorem madeB (N : Nat) (hN : N ≤ 1000000) (w : World) : (Instr.makeSlice 41 (.int .i64 N) (.int .i64 N)).run Tryd.prog w = .ok (.slice (some ⟨w.heap.size, 0, none⟩) N N) (w.alloc (.cells (bls (List.replicate N false)).toArray 4)) := by
  obtain ⟨i0, hi, hz0, hz1, hz2⟩ := info_parts Tryd.info4
  have hr := run_make (P := Tryd.prog) w 41 4 i0 (.bool false) Tryd.underlying41 hi hz0 .i64 .i64 N N (by omega) (by omega) (by rw [hz2]; omega) (by omega)
  rw [hr, Int.toNat_natCast]
  have e : madeCells (Value.bool false).cells (N * i0.size) = (bls (List.replicate N false)).toArray := by
    rw [hz1, Nat.mul_one]
    apply Array.ext_getElem?
    intro j
    by_cases hj : j < N
    · simp [madeCells, bls, hj, Value.cells, Nat.mod_one]
    · simp [madeCells, bls, hj, Value.cells, Nat.mod_one]
  rw [e]

/-- The filter by the document's rule is the same. -/
theorem stage_make (names : List (List UInt8)) (b : Nat) :
    stage (fun i => (allP names (8 * sizeL names.length b)).contains i) (sizeL names.length b) 0 = makeL names b := by
  apply bits_ext (by rw [stage_length, makeL_length])
  intro i hi
  rw [stage_length] at hi
  rw [bitAt_stage _ _ _ hi]
  unfold makeL
  rw [bitAt_setAll, bitAt_zero, Bool.false_or]
  intro p hp
  obtain ⟨l, _, hl⟩ := List.mem_flatMap.1 hp
  rw [List.length_replicate]
  exact places_lt _ _ p hl

set_option maxHeartbeats 1000000 in
theorem rmake_arg (v : Value) (b : Int) (hb : b < 1 ∨ 64 < b) (w : World) :
    Calls Tryd.prog 12 #[v, .int .i64 b] w fun e w' => e = .returned (.tuple #[.string (B []), .int .i64 1]) ∧ w = w' := by
  go_enter Tryd.func12, Tryd.ntmps12
  rcases hb with hb | hb
  · go_wp2
    go_ret2
    exact ⟨rfl, rfl⟩
  · go_wp2
    go_ret2
    exact ⟨rfl, rfl⟩

set_option maxHeartbeats 4000000 in
theorem rmake_any (names : List (List UInt8)) (A : Option Addr) (cap : Nat) (b : Nat) (hb : 1 ≤ b) (hb2 : b ≤ 64) (hn : names.length ≤ 2000) (hls : ∀ l ∈ names, l.length ≤ 100000) (w : World) (hS : Strs w A cap names) :
    Calls Tryd.prog 12 #[.slice A names.length cap, .int .i64 (b : Int)] w fun e w' => e = .returned (.tuple #[.string (B (makeL names b)), .int .i64 0]) ∧ Old w w' := by
  obtain ⟨m, hm⟩ : ∃ m, m = names.length * b := ⟨_, rfl⟩
  have hmI : (names.length : Int) * (b : Int) = (m : Int) := by rw [hm, Int.natCast_mul]
  have hm2 : m ≤ 128000 := by rw [hm]; exact Nat.mul_le_mul hn hb2
  obtain ⟨N, hN⟩ : ∃ N, N = sizeL names.length b := ⟨_, rfl⟩
  have hNm : max 8 ((m + 7) / 8) = N := by rw [hN, hm]; rfl
  have hN2 := sizeL_le names.length b hn hb2
  rw [← hN] at hN2
  have HM := Lib.hid (stage_make names b)
  rw [← hN] at HM
  have e8 : (8 * (N : Int)) = ((8 * N : Nat) : Int) := by omega
  have hmk := madeB (8 * N) (by omega) w
  rw [← e8] at hmk
  clear hN hm
  go_enter Tryd.func12, Tryd.ntmps12
  have hif : (if ((m : Int) + 7) / 8 < 8 then (8 : Int) else ((m : Int) + 7) / 8) = (N : Int) := by split <;> omega
  have HE := Lib.hid e8
  clear e8 hNm
  go_wp2_with fail
  clear hmk hif
  go_loopw [8] (fun i wr => ∃ k : Nat, k ≤ names.length ∧ i = .int .i64 k ∧ RowB wr w.heap.size (marks (8 * N) (allP (names.take k) (8 * N))) ∧ Old w wr) (fun i _ => names.length - (intOf i).toNat)
  case atStart =>
    refine ⟨0, Nat.zero_le _, rfl, ?_, old_alloc _ _⟩
    show RowB _ _ (marks (8 * N) [])
    rw [marks_nil]
    exact heap_alloc_new w _
  case round =>
    obtain ⟨k, hk, rfl, h2, h3⟩ := hrel
    by_cases hlt : k < names.length
    · obtain ⟨hm1, bb, off, rfl, hcl⟩ := hS.at_ k hlt
      have hcl2 := cell_old hcl h3
      have hnl := hls _ (List.getElem_mem hlt)
      have HA := Lib.hid (allP_snoc names k hlt (8 * N))
      have HB := Lib.hid (rbits_any names[k] (by omega) (8 * N) (by omega) wr)
      rw [← HE.out] at HB
      clear hcl
      go_wp2_with fail
      refine HB.out.mono ?_
      rintro e w2 ⟨v, rfl, ho, hold⟩
      clear HB
      obtain ⟨A2, cap2, rfl, _⟩ := ho.shape
      have hpl := places_length names[k] (8 * N) (by omega)
      have hlp := fun j hj => places_lt names[k] (8 * N) _ (List.getElem_mem (n := j) hj)
      have h4 := h2.old hold
      have h5 := h3.tr hold
      have hsz : w.heap.size < wr.heap.size := h2.lt
      generalize places names[k] (8 * N) = ps at *
      rw [hpl]
      generalize allP (names.take k) (8 * N) = qs at *
      clear h2 hold hcl2
      go_wp2_with fail
      go_loopw [10] (fun i w3 => ∃ j : Nat, j ≤ 4 ∧ i = .int .i64 j ∧ RowB w3 w.heap.size (marks (8 * N) (qs ++ ps.take j)) ∧ Ints w3 wr.heap.size (.slice A2 ps.length cap2) ps ∧ Old w w3) (fun i _ => 4 - (intOf i).toNat)
      case atStart => exact ⟨0, Nat.zero_le _, rfl, by simpa using h4, ho, h5⟩
      case round =>
        clear ho h4 h5
        obtain ⟨j, hj, rfl, h4, ho, h5⟩ := hrel
        by_cases hjl : j < 4
        · obtain ⟨A3, cap3, he, hat⟩ := ho.shape
          have hq := hlp j (by omega)
          have HT := Lib.hid (show qs ++ ps.take (j + 1) = qs ++ ps.take j ++ [ps[j]] by rw [List.take_succ_eq_append_getElem (by omega), List.append_assoc])
          obtain ⟨g, rfl, hc⟩ := hat.at_ j (by omega)
          simp only [Value.slice.injEq] at he
          obtain ⟨rfl, -, rfl⟩ := he
          have hR := h4.set ps[j] true
          rw [marks_set, ← HT.out] at hR
          have hI := ho.set (a := ⟨w.heap.size, ps[j], none⟩) hsz (.bool true)
          have hO := h5.st (p := ⟨w.heap.size, ps[j], none⟩) (Nat.le_refl _) (.bool true)
          have hfr := h4.free ps[j]
          have hcb := h4.cell ps[j] _ (marks_at _ _ _ hq)
          clear h4 ho h5 hat HT
          generalize ps[j] = p at *
          go_wp2
          go_roundw
          case rel => exact ⟨j + 1, by omega, by go_num, hR, hI, hO⟩
          case measure => simp [intOf]; omega
        · obtain rfl : j = 4 := by omega
          rw [List.take_of_length_le (by omega), ← HA.out] at h4
          go_wp2
          go_roundw
          case rel => exact ⟨k + 1, by omega, by go_num, h4, h5⟩
          case measure => simp [intOf]; omega
    · rw [List.take_of_length_le (by omega)] at h2
      have hmk := made N (by omega) wr
      generalize allP names (8 * N) = qs at *
      have hsz : w.heap.size < wr.heap.size := h2.lt
      go_wp2_with fail
      clear hmk
      have hro := heap_alloc_new wr (.cells (bs (List.replicate N 0)).toArray 5)
      generalize wr.heap.size = gB at *
      go_loopw [12] (fun i w4 => ∃ m : Nat, m ≤ 8 * N ∧ i = .int .i64 ((m : Int) - 1) ∧ Row w4 gB (stage (fun i => qs.contains i) N m) ∧ RowB w4 w.heap.size (marks (8 * N) qs) ∧ Old w w4) (fun i _ => ((intOf i) + 1).toNat)
      case atStart =>
        refine ⟨8 * N, Nat.le_refl _, by go_num, ?_, h2.old (old_alloc _ _), h3.al _⟩
        rw [stage_end]
        exact hro
      case round =>
        clear h2 h3 hro
        obtain ⟨m2, hm2, rfl, hR, hB, hO⟩ := hrel
        rcases Nat.eq_zero_or_pos m2 with rfl | hpos
        · rw [HM.out] at hR
          have hfl := stage_length (fun i => qs.contains i) N 0
          rw [HM.out] at hfl
          have hcv := hR.str (cap := N)
          rw [hfl] at hcv
          go_wp2
          go_ret2
          exact ⟨rfl, hO⟩
        · obtain ⟨q, rfl⟩ : ∃ q, m2 = q + 1 := ⟨m2 - 1, by omega⟩
          rw [show (((q + 1 : Nat) : Int) - 1) = (q : Int) by omega]
          have hq8 : q / 8 < N := by omega
          have hcB := hR.cell (q / 8) (by rw [stage_length]; exact hq8)
          rw [stage_now _ _ _ (by omega)] at hcB
          have HS := Lib.hid (stage_step (fun i => qs.contains i) N q)
          have hy := val_small (fun i => qs.contains i) (q + 1) q
          have hcI := hB.cell q _ (marks_at _ _ _ (by omega))
          have hfB := hR.free (q / 8)
          generalize val (fun i => qs.contains i) (q + 1) (7 - q % 8) = y at *
          generalize hst : stage (fun i => qs.contains i) N (q + 1) = st at *
          have hne : w.heap.size ≠ gB := by omega
          have hcI2 : (wr.setCell ⟨gB, q / 8, none⟩ (.int .u8 ((y : Int) * 2))).cell? ⟨w.heap.size, q, none⟩ = some (.bool (qs.contains q)) := by
            rw [World.cell?_setCell_other _ _ _ _ (by simp)]; exact hcI
          have hR1 := hR.set (q / 8) (UInt8.ofNat (2 * y))
          rw [show ((UInt8.ofNat (2 * y)).toNat : Int) = (y : Int) * 2 by simp; omega] at hR1
          have hcB2 := hR1.cell (q / 8) (by rw [List.length_set, ← hst, stage_length]; exact hq8)
          rw [List.getElem_set_self, show ((UInt8.ofNat (2 * y)).toNat : Int) = (y : Int) * 2 by simp; omega] at hcB2
          have hB1 : RowB (wr.setCell ⟨gB, q / 8, none⟩ (.int .u8 ((y : Int) * 2))) w.heap.size (marks (8 * N) qs) := (heap_setCell_other _ _ _ _ hne).trans hB
          have hO1 := hO.st (p := ⟨gB, q / 8, none⟩) (by show w.heap.size ≤ gB; omega) (.int .u8 ((y : Int) * 2))
          generalize qs.contains q = bit at *
          cases bit
          · have HS2 := Lib.hid HS.out
            rw [if_neg (by decide), Nat.add_zero] at HS2
            clear HS hR hB hO hcI
            go_wp2
            go_roundw
            case rel => exact ⟨q, by omega, by go_num, by rw [HS2.out]; exact hR1, hB1, hO1⟩
            case measure => simp [intOf]
          · have HS2 := Lib.hid HS.out
            rw [if_pos rfl] at HS2
            have hR2 := hR1.set (q / 8) (UInt8.ofNat (2 * y + 1))
            rw [show ((UInt8.ofNat (2 * y + 1)).toNat : Int) = (y : Int) * 2 + 1 by simp; omega, List.set_set, ← HS2.out] at hR2
            have hB2 : RowB ((wr.setCell ⟨gB, q / 8, none⟩ (.int .u8 ((y : Int) * 2))).setCell ⟨gB, q / 8, none⟩ (.int .u8 ((y : Int) * 2 + 1))) w.heap.size (marks (8 * N) qs) := (heap_setCell_other _ _ _ _ hne).trans hB1
            have hO2 := hO1.st (p := ⟨gB, q / 8, none⟩) (by show w.heap.size ≤ gB; omega) (.int .u8 ((y : Int) * 2 + 1))
            clear HS HS2 hR hB hO hcI hR1 hB1 hO1
            go_wp2
            go_roundw
            case rel => exact ⟨q, by omega, by go_num, hR2, hB2, hO2⟩
            case measure => simp [intOf]

set_option maxHeartbeats 1000000 in
theorem same_any (l : List Nat) (hl : l.length ≤ 100000) (A1 A2 : Option Addr) (c1 c2 : Nat) (w : World) (h1 : IntsAt w A1 l) (h2 : IntsAt w A2 l) :
    Calls Tryd.prog 15 #[.slice A1 l.length c1, .slice A2 l.length c2] w fun e w' => e = .returned (.bool true) ∧ Old w w' := by
  go_enter Tryd.func15, Tryd.ntmps15
  go_wp2_with fail
  go_loopw [5] (fun i wr => ∃ k : Nat, k ≤ l.length ∧ i = .int .i64 k ∧ Old w wr) (fun i _ => l.length - (intOf i).toNat)
  case atStart => exact ⟨0, Nat.zero_le _, rfl, Old.re _⟩
  case round =>
    obtain ⟨k, hk, rfl, hO⟩ := hrel
    by_cases hlt : k < l.length
    · obtain ⟨g1, rfl, d1⟩ := h1.at_ k hlt
      obtain ⟨g2, rfl, d2⟩ := h2.at_ k hlt
      have e1 := cell_old d1 hO
      have e2 := cell_old d2 hO
      clear d1 d2
      generalize l[k] = x at *
      go_wp2_with fail
      go_quiet (fail)
      go_wp2
      go_roundw
      case rel => exact ⟨k + 1, by omega, by go_num, hO.dn _⟩
      case measure => simp [intOf]; omega
    · go_wp2
      go_ret
      exact ⟨rfl, hO⟩
end Go.Proofs.YtphonnihibikcaaDoor
