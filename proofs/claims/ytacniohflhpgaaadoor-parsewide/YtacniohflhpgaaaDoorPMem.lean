/-
  Rows of bytes: make, string(..). No conditions but those written.
-/
import Derived.Test.YtacniohflhpgaaaDoorPSho
namespace Go.Proofs.YtacniohflhpgaaaDoor
open Go.RowKit

/-- Bytes as cells. -/
def bs (l : List UInt8) : List Value := l.map fun b => .int .u8 (b.toNat : Int)
theorem bs_length (l : List UInt8) : (bs l).length = l.length := by simp [bs]
theorem bs_set (l : List UInt8) (i : Nat) (b : UInt8) : bs (l.set i b) = (bs l).set i (.int .u8 (b.toNat : Int)) := by simp [bs, List.map_set]
theorem bs_at (l : List UInt8) (i : Nat) (h : i < l.length) : (bs l)[i]? = some (.int .u8 (l[i].toNat : Int)) := by simp [bs, h]
theorem Tryd.info5 : (Tryd.prog.info? 5).map (fun i => (i.zero, i.size, i.bytes)) = some (some (.int .u8 0), 1, 1) := by kernel_rfl
theorem fold_push (l : List UInt8) : ∀ r : ByteArray, ((l.map fun b => (b.toNat : Int)).foldl (fun r n => r.push (UInt8.ofNat n.toNat)) r) = ⟨r.data ++ l.toArray⟩ := by
  induction l with
  | nil => intro r; simp
  | cons b l ih =>
    intro r
    simp only [List.map_cons, List.foldl_cons]
    rw [ih]
    simp [ByteArray.push]
/-- string(v), v a slice whose cells are these bytes. -/
theorem run_strAt {w : World} {g cap : Nat} (l : List UInt8) (h : ∀ j u, (bs l)[j]? = some u → w.cell? (Addr.add ⟨g, 0, none⟩ j) = some u) :
    (convert 37 9 (.slice (some ⟨g, 0, none⟩) l.length cap)).run Tryd.prog w = .ok (.string (B l)) w := by
  rw [run_convert_bytes_string w _ _ _ _ _ _ Tryd.underlying37 Tryd.underlying5 Tryd.underlying9]
  rw [run_bytesToString w ⟨g, 0, none⟩ l.length cap (l.map fun b => (b.toNat : Int)) ?_]
  · rw [fold_push]
    show Result.ok (Value.string ⟨#[] ++ l.toArray⟩) w = _
    rw [Array.empty_append]
  · have h1 := run_loadCells_list (P := Tryd.prog) w ⟨g, 0, none⟩ (bs l) h
    rw [bs_length] at h1
    rw [h1]
    simp [bs]

/-- make([]byte, n): n bytes 0. -/
theorem made (N : Nat) (hN : N ≤ 100000) (w : World) : ∃ w1, (Instr.makeSlice 37 (.int .i64 N) (.int .i64 N)).run Tryd.prog w = .ok (.slice (some ⟨w.heap.size, 0, none⟩) N N) w1 ∧
    Bk w1 w.heap.size 5 (bs (List.replicate N 0)).toArray ∧ Old w w1 := by
  obtain ⟨i0, hi, hz0, hz1, hz2⟩ := info_parts Tryd.info5
  have hr := run_make (P := Tryd.prog) w 37 5 i0 (.int .u8 0) Tryd.underlying37 hi hz0 .i64 .i64 N N (by omega) (by omega) (by rw [hz2]; omega) (by omega)
  rw [Int.toNat_natCast] at hr
  refine ⟨_, hr, ?_, old_alloc _ _⟩
  have h1 := new_bk w 5 (madeCells (Value.int .u8 0).cells N)
  have e : madeCells (Value.int .u8 0).cells N = (bs (List.replicate N 0)).toArray := by
    apply Array.ext
    · simp [madeCells, bs, Value.cells]
    · intro i h1 h2
      simp [madeCells, bs, Value.cells, Nat.mod_one]
  rw [hz1, Nat.mul_one, e]
  rw [e] at h1
  exact h1
theorem bk_str {w : World} {g cap : Nat} {l : List UInt8} (h : Bk w g 5 (bs l).toArray) (k : Nat) (hk : k ≤ l.length) : (convert 37 9 (.slice (some ⟨g, 0, none⟩) k cap)).run Tryd.prog w = .ok (.string (B (l.take k))) w := by
  have := run_strAt (w := w) (g := g) (cap := cap) (l.take k) (fun j u hu => by
    rw [Addr.add_lit, Nat.zero_add, h.cell]
    simp only [bs, List.getElem?_toArray, List.getElem?_map, List.getElem?_take] at hu ⊢
    split at hu
    · exact hu
    · cases hu)
  rwa [List.length_take, Nat.min_eq_left hk] at this
end Go.Proofs.YtacniohflhpgaaaDoor
