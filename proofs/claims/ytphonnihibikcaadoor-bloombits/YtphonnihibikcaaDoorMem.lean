/-
  Bytes as cells, bytes to a text, a list of texts in memory. No conditions but those written.
-/
import Derived.Test.YtphonnihibikcaaDoorTell
import Derived.Test.YtphonnihibikcaaDoorBit
namespace Go.Proofs.YtphonnihibikcaaDoor
open Go.RowKit

/-- Bytes as cells. -/
def bs (l : List UInt8) : List Value := l.map fun b => .int .u8 (b.toNat : Int)
theorem bs_length (l : List UInt8) : (bs l).length = l.length := by simp [bs]
theorem bs_set (l : List UInt8) (i : Nat) (b : UInt8) : bs (l.set i b) = (bs l).set i (.int .u8 (b.toNat : Int)) := by simp [bs, List.map_set]
theorem bs_at (l : List UInt8) (i : Nat) (h : i < l.length) : (bs l)[i]? = some (.int .u8 (l[i].toNat : Int)) := by simp [bs, h]
theorem Tryd.info5 : (Tryd.prog.info? 5).map (fun i => (i.zero, i.size, i.bytes)) = some (some (.int .u8 0), 1, 1) := by kernel_rfl

theorem fold_push (l : List UInt8) : ∀ r : ByteArray, ((l.map fun b => (b.toNat : Int)).foldl (fun r n => r.push (UInt8.ofNat n.toNat)) r) = ⟨r.data ++ l.toArray⟩ := by
  induction l with
  | nil => intro r; simp
  | cons b l ih =>
    intro r
    simp only [List.map_cons, List.foldl_cons]
    rw [ih]
    simp [ByteArray.push]
/-- string(v), v a slice whose cells are these bytes. -/
theorem run_strAt {w : World} {g cap : Nat} (l : List UInt8) (h : ∀ j u, (bs l)[j]? = some u → w.cell? (Addr.add ⟨g, 0, none⟩ j) = some u) :
    (convert 38 9 (.slice (some ⟨g, 0, none⟩) l.length cap)).run Tryd.prog w = .ok (.string (B l)) w := by
  rw [run_convert_bytes_string w _ _ _ _ _ _ Tryd.underlying38 Tryd.underlying5 Tryd.underlying9]
  rw [run_bytesToString w ⟨g, 0, none⟩ l.length cap (l.map fun b => (b.toNat : Int)) ?_]
  · rw [fold_push]
    show Result.ok (Value.string ⟨#[] ++ l.toArray⟩) w = _
    rw [Array.empty_append]
  · have h1 := run_loadCells_list (P := Tryd.prog) w ⟨g, 0, none⟩ (bs l) h
    rw [bs_length] at h1
    rw [h1]
    simp [bs]
/-- A block that holds these bytes. -/
def Row (w : World) (g : Nat) (l : List UInt8) : Prop := w.heap[g]? = some (.cells (bs l).toArray 5 (0, 0))
theorem Row.cell {w : World} {g : Nat} {l : List UInt8} (h : Row w g l) (i : Nat) (hi : i < l.length) : w.cell? ⟨g, i, none⟩ = some (.int .u8 (l[i].toNat : Int)) := by
  rw [cell_of_row w g i _ _ _ h]
  simpa using bs_at l i hi
theorem Row.free {w : World} {g : Nat} {l : List UInt8} (h : Row w g l) (i : Nat) : w.frozen? ⟨g, i, none⟩ = false := by simp [World.frozen?, show w.heap[g]? = _ from h]
theorem Row.set {w : World} {g : Nat} {l : List UInt8} (h : Row w g l) (i : Nat) (b : UInt8) : Row (w.setCell ⟨g, i, none⟩ (.int .u8 (b.toNat : Int))) g (l.set i b) := by
  have := heap_setCell_same w g i _ _ (.int .u8 (b.toNat : Int)) h
  unfold Row
  rw [this, bs_set]
  simp
theorem Row.str {w : World} {g cap : Nat} {l : List UInt8} (h : Row w g l) : (convert 38 9 (.slice (some ⟨g, 0, none⟩) l.length cap)).run Tryd.prog w = .ok (.string (B l)) w := by
  refine run_strAt l fun j u hu => ?_
  rw [Addr.add_lit, Nat.zero_add, cell_of_row w g j _ _ _ h]
  simpa using hu
/-- make([]byte, n). -/
theorem made (N : Nat) (hN : N ≤ 100000) (w : World) : (Instr.makeSlice 38 (.int .i64 N) (.int .i64 N)).run Tryd.prog w = .ok (.slice (some ⟨w.heap.size, 0, none⟩) N N) (w.alloc (.cells (bs (List.replicate N 0)).toArray 5)) := by
  obtain ⟨i0, hi, hz0, hz1, hz2⟩ := info_parts Tryd.info5
  have hr := run_make (P := Tryd.prog) w 38 5 i0 (.int .u8 0) Tryd.underlying38 hi hz0 .i64 .i64 N N (by omega) (by omega) (by rw [hz2]; omega) (by omega)
  rw [hr, Int.toNat_natCast]
  have e : madeCells (Value.int IntKind.u8 0).cells (N * i0.size) = (bs (List.replicate N 0)).toArray := by
    rw [hz1, Nat.mul_one]
    apply Array.ext_getElem?
    intro j
    by_cases hj : j < N
    · simp [madeCells, bs, hj, Value.cells, Nat.mod_one]
    · simp [madeCells, bs, hj, Value.cells, Nat.mod_one]
  rw [e]

theorem kept_cell {W w1 : World} (hb : Old W w1) (g o : Nat) (h : g < W.heap.size) : w1.cell? ⟨g, o, none⟩ = W.cell? ⟨g, o, none⟩ := hb.cell (p := ⟨g, o, none⟩) h
theorem cell_old {w W : World} {b o : Nat} {v : Value} (h : w.cell? ⟨b, o, none⟩ = some v) (k : Old w W) : W.cell? ⟨b, o, none⟩ = some v := by
  rw [kept_cell k b o (World.block_lt_of_cell? w ⟨b, o, none⟩ h)]; exact h
theorem cell_below {n : Nat} {w W : World} {b o : Nat} {v : Value} (h : w.cell? ⟨b, o, none⟩ = some v) (k : Below n w W) (hb : b < n) : W.cell? ⟨b, o, none⟩ = some v := by
  rw [k.cell (p := ⟨b, o, none⟩) hb]; exact h

/-- A slice at A of these texts. -/
def Strs (w : World) (A : Option Addr) (cap : Nat) (l : List (List UInt8)) : Prop :=
  l.length ≤ cap ∧ ∀ (i : Nat) (t : List UInt8), l[i]? = some t → t.length ≤ maxLen ∧ ∃ b off, A = some ⟨b, off, none⟩ ∧ w.cell? ⟨b, off + i, none⟩ = some (.string (B t))
theorem Strs.at_ {w : World} {A : Option Addr} {cap : Nat} {l : List (List UInt8)} (h : Strs w A cap l) (i : Nat) (hi : i < l.length) : l[i].length ≤ maxLen ∧ ∃ b off, A = some ⟨b, off, none⟩ ∧ w.cell? ⟨b, off + i, none⟩ = some (.string (B l[i])) := h.2 i _ (List.getElem?_eq_getElem hi)
theorem Strs.old {w W : World} {A : Option Addr} {cap : Nat} {l : List (List UInt8)} (h : Strs w A cap l) (k : Old w W) : Strs W A cap l := by
  refine ⟨h.1, fun i t ht => ?_⟩
  obtain ⟨h1, b, off, rfl, h2⟩ := h.2 i t ht
  exact ⟨h1, b, off, rfl, cell_old h2 k⟩
end Go.Proofs.YtphonnihibikcaaDoor
