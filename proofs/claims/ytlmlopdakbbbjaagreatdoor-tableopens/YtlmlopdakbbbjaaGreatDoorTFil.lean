/-
  The filter of a file: filterOf of table. Conditions: the table is laid; lengths as written.
-/
import Derived.Test.YtlmlopdakbbbjaaGreatDoorTIdx
import Derived.Test.YtlmlopdakbbbjaaGreatDoorShelf
namespace Go.Proofs.YtlmlopdakbbbjaaGreatDoor
open Go.RowKit

/-- make([]string, n). -/
theorem madeS (N : Nat) (hN : N ≤ 100000) (w : World) : (Instr.makeSlice 45 (.int .i64 N) (.int .i64 N)).run Tryz.prog w = .ok (.slice (some ⟨w.heap.size, 0, none⟩) N N) (w.alloc (.cells (Array.replicate N (Value.string ⟨#[]⟩)) 9)) := by
  obtain ⟨i0, hi, hz0, hz1, hz2⟩ := info_parts Tryz.infoStr
  have hr := run_make (P := Tryz.prog) w 45 9 i0 (.string ByteArray.empty) Tryz.underlying45 hi hz0 .i64 .i64 N N (by omega) (by omega) (by rw [hz2]; omega) (by omega)
  rw [hr, Int.toNat_natCast]
  have e : madeCells (Value.string ByteArray.empty).cells (N * i0.size) = Array.replicate N (Value.string ⟨#[]⟩) := by
    rw [hz1, Nat.mul_one]
    apply Array.ext_getElem?
    intro j
    by_cases hj : j < N
    · simp [madeCells, hj, Value.cells, Nat.mod_one]; rfl
    · simp [madeCells, hj, Value.cells, Nat.mod_one]
  rw [e]
/-- The rows so far, and nothing behind them. -/
def rowsTo (l : List Cel) (k : Nat) : List Value := ((l.take k).map fun c => Value.string (B c.row)) ++ List.replicate (l.length - k) (.string ⟨#[]⟩)
theorem rowsTo_set (l : List Cel) (k : Nat) (h : k < l.length) : (rowsTo l k).toArray.setIfInBounds k (.string (B l[k].row)) = (rowsTo l (k + 1)).toArray := by
  have h1 : ((l.take k).map fun c => Value.string (B c.row)).length = k := by simp; omega
  unfold rowsTo
  rw [List.setIfInBounds_toArray, List.take_succ_eq_append_getElem h, List.map_append, List.map_cons, List.map_nil]
  generalize ((l.take k).map fun c => Value.string (B c.row)) = xs at *
  rw [List.set_append_right _ _ (by omega), h1, Nat.sub_self, show l.length - k = (l.length - (k + 1)) + 1 by omega, List.replicate_succ, List.set_cons_zero, List.append_assoc]
  rfl
theorem rowsTo_at (l : List Cel) (j : Nat) (h : j < l.length) : (rowsTo l l.length).toArray[j]? = some (.string (B l[j].row)) := by
  unfold rowsTo
  simp [h]
theorem old_putRow {w W : World} {g off q : Nat} {d : Array (List UInt8)} (h : Old w W) (hg : w.heap.size ≤ g) : Old w (Sort.putRow encStr (Sort.ahead W q) g off d) := by
  refine ⟨h.os, h.tape, h.output, ?_, fun i hi => ?_⟩
  · have := h.size
    simpa [Sort.putRow, Sort.mapBlock, Sort.ahead] using this
  · have := h.block i hi
    rw [← this]
    simp only [Sort.putRow, Sort.mapBlock, Sort.ahead]
    rw [Array.getElem?_modify, if_neg (by omega)]
theorem strs_compact {W : World} {g q : Nat} {zs : List (List UInt8)} (h0 : Sort.Holds encStr W g 0 zs.toArray) (hl : ∀ z ∈ Lib.compact zs, z.length ≤ 100000) :
    Strs (Sort.putRow encStr (Sort.ahead W q) g 0 (Lib.compact zs ++ List.replicate (zs.length - (Lib.compact zs).length) []).toArray) (some ⟨g, 0, none⟩) zs.length (Lib.compact zs) := by
  have hle := Lib.compact_length_le zs
  have hsz : (Lib.compact zs ++ List.replicate (zs.length - (Lib.compact zs).length) ([] : List UInt8)).toArray.size = zs.toArray.size := by simp; omega
  have hH := Sort.holds_putRow encStr (Sort.ahead W q) g 0 zs.toArray _ (Sort.holds_ahead encStr W q g 0 zs.toArray h0) hsz
  refine ⟨hle, fun i t hi => ?_⟩
  have hlt : i < (Lib.compact zs).length := (List.getElem?_eq_some_iff.1 hi).1
  refine ⟨?_, g, 0, rfl, ?_⟩
  · have := hl t (List.mem_of_getElem? hi); unfold maxLen; omega
  · have := (hH i (by rw [hsz]; simp; omega)).1
    rw [this]
    have e : (Lib.compact zs ++ List.replicate (zs.length - (Lib.compact zs).length) ([] : List UInt8)).toArray[i]! = t := by
      rw [getElem!_pos _ i (by rw [hsz]; simp; omega)]
      rw [List.getElem_toArray, List.getElem_append_left hlt]
      exact (List.getElem?_eq_some_iff.1 hi).2
    rw [e]
theorem rowsOf_mem (l : List Cel) : ∀ t ∈ rowsOf l, ∃ c ∈ l, c.row = t := by
  intro t ht
  unfold rowsOf Lib.compact Lib.compactUpTo at ht
  obtain ⟨j, hj, rfl⟩ := List.mem_map.1 ht
  have hj2 := List.mem_range.1 (List.mem_filter.1 hj).1
  rw [List.length_map] at hj2
  refine ⟨l[j], List.getElem_mem _, ?_⟩
  simp [hj2]

theorem strs_rows {W : World} {g q : Nat} {l : List Cel} (h0 : Sort.Holds encStr W g 0 (l.map (·.row)).toArray) (hl : ∀ z ∈ rowsOf l, z.length ≤ 100000) :
    Strs (Sort.putRow encStr (Sort.ahead W q) g 0 (rowsOf l ++ List.replicate (l.length - (rowsOf l).length) []).toArray) (some ⟨g, 0, none⟩) l.length (rowsOf l) := by
  have h := strs_compact (q := q) h0 hl
  rw [List.length_map] at h
  exact h
theorem compact_rows {W : World} {g : Nat} {l : List Cel} (h0 : Sort.Holds encStr W g 0 (l.map (·.row)).toArray) (hml : l.length ≤ 2000) :
    Calls Tryz.prog 56 #[.slice (some ⟨g, 0, none⟩) l.length l.length] W (fun e w' => e = .returned (.slice (some ⟨g, 0, none⟩) (rowsOf l).length l.length) ∧ ∃ q, w' = Sort.putRow encStr (Sort.ahead W q) g 0 (rowsOf l ++ List.replicate (l.length - (rowsOf l).length) []).toArray) := by
  have h := Tryz.slices_Compact_string g 0 l.length (l.map (·.row)) W h0 (by simp; omega) (by simp)
  rw [List.length_map] at h
  exact h
theorem compact_rows2 {w W : World} {g : Nat} {l : List Cel} (h0 : Sort.Holds encStr W g 0 (l.map (·.row)).toArray) (hml : l.length ≤ 2000) (hls : ∀ c ∈ l, c.row.length ≤ 100000) (hw : Old w W) (hg : w.heap.size ≤ g) :
    Calls Tryz.prog 56 #[.slice (some ⟨g, 0, none⟩) l.length l.length] W (fun e w' => e = .returned (.slice (some ⟨g, 0, none⟩) (rowsOf l).length l.length) ∧ Strs w' (some ⟨g, 0, none⟩) l.length (rowsOf l) ∧ Old w w') := by
  refine (compact_rows h0 hml).mono ?_
  rintro e w' ⟨rfl, q, rfl⟩
  refine ⟨rfl, strs_rows h0 (fun t ht => ?_), old_putRow hw hg⟩
  obtain ⟨c, hc, rfl⟩ := rowsOf_mem l t ht
  exact hls c hc
set_option maxRecDepth 100000 in
set_option maxHeartbeats 4000000 in
theorem filterOf_any (v : Value) (l : List Cel) (w : World) (h : CelC w v l) (hne : l ≠ []) (hml : l.length ≤ 2000) (hls : ∀ c ∈ l, c.row.length ≤ 100000) (ht : Tab w) :
    Calls Tryz.prog 23 #[v] w fun e w' => e = .returned (.string (B (put (filt l)))) ∧ Old w w' := by
  obtain ⟨A, cap, rfl, hcap, hC⟩ := h
  obtain ⟨b, off, rfl, hCA⟩ := hC hne
  clear hC
  have hmk := madeS l.length (by omega) w
  have hB0 := new_bk w 9 (rowsTo l 0).toArray
  have e0 : (rowsTo l 0).toArray = Array.replicate l.length (.string ⟨#[]⟩) := by simp [rowsTo]
  rw [e0] at hB0
  have o0 := old_alloc w (.cells (Array.replicate l.length (Value.string ⟨#[]⟩)) 9)
  go_enter Tryz.func23, Tryz.ntmps23
  go_wp2_with fail
  generalize w.alloc (.cells (Array.replicate l.length (Value.string ⟨#[]⟩)) 9) = w1 at *
  clear hmk
  go_loopw [13] (fun i wr => ∃ k : Nat, k ≤ l.length ∧ i = .int .i64 k ∧ Bk wr w.heap.size 9 (rowsTo l k).toArray ∧ Old w wr) (fun i _ => l.length - (intOf i).toNat)
  case atStart => exact ⟨0, Nat.zero_le _, rfl, by rw [e0]; exact hB0, o0⟩
  case round =>
    obtain ⟨k, hk, rfl, hB, hw⟩ := hrel
    by_cases hlt : k < l.length
    · have hx := (hCA.at_ k hlt).old hw
      have HS := Lib.hid (rowsTo_set l k hlt)
      have hcl : (rowsTo l k).toArray[k]? ≠ none := by simp [rowsTo]; omega
      generalize l[k] = c at *
      obtain ⟨a0, a1, a2, a3, a4, a5⟩ := hx.held
      have i1 : (k : Int) < (l.length : Int) := by omega
      obtain ⟨u, hu⟩ := Option.ne_none_iff_exists'.1 hcl
      have hcell := hB.cell k
      rw [hu] at hcell
      have hfr := hB.fr k
      have hlt2 := hB.lt
      go_wp2
      go_roundw
      case rel => exact ⟨k + 1, by omega, by go_num, by rw [← HS.out]; exact (hB.set_ k _).alloc _, (hw.st (Nat.le_refl _) _).al _⟩
      case measure => simp [intOf]; omega
    · have e : k = l.length := by omega
      subst e
      have hH : Sort.Holds encStr wr w.heap.size 0 (l.map (·.row)).toArray := by
        intro j hj
        have hj2 : j < l.length := by simpa using hj
        rw [Nat.zero_add]
        refine ⟨?_, hB.fr j⟩
        rw [hB.cell j, rowsTo_at l j hj2]
        simp [hj2]
      have hg := hw.size
      have hc0 := compact_rows2 hH hml hls hw (Nat.le_refl _)
      have hrl : ∀ t ∈ rowsOf l, t.length ≤ 100000 := fun t ht => by
        obtain ⟨c, hc, rfl⟩ := rowsOf_mem l t ht
        exact hls c hc
      have hrn : (rowsOf l).length ≤ 2000 := by have := Lib.compact_length_le (l.map (·.row)); rw [List.length_map] at this; unfold rowsOf; omega
      have HF := Lib.hid (show filt l = makeL (rowsOf l) 10 from rfl)
      have hfl := (filt_len l hml).2
      clear hH hB
      generalize rowsOf l = rs at *
      go_wp2_with fail
      refine hc0.mono ?_
      rintro e w2 ⟨rfl, hS2, o2⟩
      clear hc0
      go_wp2_with fail
      refine (make_any rs _ l.length 10 (by omega) (by omega) hrn hrl _ hS2 (ht.old o2)).mono ?_
      rintro e w3 ⟨rfl, k3⟩
      rw [← HF.out]
      have o3 := o2.tr k3
      go_wp2_with fail
      refine (tput_any (filt l) (by omega) _ (ht.old o3)).mono ?_
      rintro e w4 ⟨rfl, k4⟩
      go_wp2
      go_ret
      exact ⟨rfl, o3.tr k4⟩
end Go.Proofs.YtlmlopdakbbbjaaGreatDoor
