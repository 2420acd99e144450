/-
  List of a law's disk; an error of Append and of Create of a law's disk; bytes to a text. Conditions: the disk lies in memory; lengths as written.
-/
import Derived.Test.YtlhfcfalkmencaaVLift
import Derived.Test.YtlhfcfalkmencaaVList
namespace Go.Proofs.Ytlhfcfalkmencaa
open Go.RowKit Go.Maps

/-- Bytes as cells. -/
def bs (l : List UInt8) : List Value := l.map fun b => .int .u8 (b.toNat : Int)
theorem bs_length (l : List UInt8) : (bs l).length = l.length := by simp [bs]
theorem bs_set (l : List UInt8) (i : Nat) (b : UInt8) : bs (l.set i b) = (bs l).set i (.int .u8 (b.toNat : Int)) := by simp [bs, List.map_set]
theorem bs_at (l : List UInt8) (i : Nat) (h : i < l.length) : (bs l)[i]? = some (.int .u8 (l[i].toNat : Int)) := by simp [bs, h]

theorem fold_push (l : List UInt8) : ∀ r : ByteArray, ((l.map fun b => (b.toNat : Int)).foldl (fun r n => r.push (UInt8.ofNat n.toNat)) r) = ⟨r.data ++ l.toArray⟩ := by
  induction l with
  | nil => intro r; simp
  | cons b l ih =>
    intro r
    simp only [List.map_cons, List.foldl_cons]
    rw [ih]
    simp [ByteArray.push]
/-- string(v), v a slice whose cells are these bytes. -/
theorem run_strAt {w : World} {g cap : Nat} (l : List UInt8) (h : ∀ j u, (bs l)[j]? = some u → w.cell? (Addr.add ⟨g, 0, none⟩ j) = some u) :
    (convert 38 9 (.slice (some ⟨g, 0, none⟩) l.length cap)).run Try.prog w = .ok (.string (B l)) w := by
  rw [run_convert_bytes_string w _ _ _ _ _ _ Try.underlying38 Try.underlying5 Try.underlying9]
  rw [run_bytesToString w ⟨g, 0, none⟩ l.length cap (l.map fun b => (b.toNat : Int)) ?_]
  · rw [fold_push]
    show Result.ok (Value.string ⟨#[] ++ l.toArray⟩) w = _
    rw [Array.empty_append]
  · have h1 := run_loadCells_list (P := Try.prog) w ⟨g, 0, none⟩ (bs l) h
    rw [bs_length] at h1
    rw [h1]
    simp [bs]
theorem bytes_str {w : World} {g cap : Nat} {l : List UInt8} (h : Bk w g 5 (bs l).toArray) : (convert 38 9 (.slice (some ⟨g, 0, none⟩) l.length cap)).run Try.prog w = .ok (.string (B l)) w := by
  refine run_strAt l fun j u hu => ?_
  rw [Addr.add_lit, Nat.zero_add, h.cell]
  simpa using hu

section
variable {w w1 : World} {d m c : Nat} {L : List Fl}
theorem list_sd {u : Bool} {z : Option Fz} (h : Sd w w1 ⟨d, m, c, L, u, z⟩) :
    Calls Try.prog 20 #[ptr d] w1 fun e w' => ∃ A cap, e = .returned (.slice A (rise L).length cap) ∧ OwnT w' w1.heap.size A cap (rise L) ∧ Sd w w' ⟨d, m, c, L, u, z⟩ ∧ Old w1 w' :=
  (list_any ⟨d, m, c, L, u, z⟩ w1 h.dk).mono fun _ _ ⟨A, cap, e1, h1, h2⟩ => ⟨A, cap, e1, h1, h.go h2, h2⟩
theorem appendF_sd (h : Sd w w1 ⟨d, m, c, L, true, none⟩) (s t : List UInt8) (ht : t.length ≤ 1000000) (hb : bad s = false) {f : Fl} (hf : fnd L s = some f) (hl : c < total L + t.length) :
    Calls Try.prog 11 #[ptr d, .string (B s), .string (B t)] w1 fun e w' => e = .returned (.int .i64 2) ∧ Sd w w' ⟨d, m, c, L, true, none⟩ ∧ Old w1 w' :=
  (append_full ⟨d, m, c, L, true, none⟩ s t (by omega) w1 h.dk rfl hb f hf hl).mono fun _ _ ⟨e1, h1⟩ => ⟨e1, h.go h1, h1⟩
theorem createF_sd (h : Sd w w1 ⟨d, m, c, L, true, none⟩) (s : List UInt8) (hb : bad s = false) (hf : fnd L s = none) (hl : 200 ≤ L.length) :
    Calls Try.prog 10 #[ptr d, .string (B s)] w1 fun e w' => e = .returned (.int .i64 2) ∧ Sd w w' ⟨d, m, c, L, true, none⟩ ∧ Old w1 w' :=
  (create_full ⟨d, m, c, L, true, none⟩ s (by have := bad_no hb; omega) w1 h.dk rfl hb hf hl).mono fun _ _ ⟨e1, h1⟩ => ⟨e1, h.go h1, h1⟩
theorem createT_sd (h : Sd w w1 ⟨d, m, c, L, true, none⟩) (s : List UInt8) (hb : bad s = false) {f : Fl} (hf : fnd L s = some f) :
    Calls Try.prog 10 #[ptr d, .string (B s)] w1 fun e w' => e = .returned (.int .i64 4) ∧ Sd w w' ⟨d, m, c, L, true, none⟩ ∧ Old w1 w' :=
  (create_twice ⟨d, m, c, L, true, none⟩ s (by have := bad_no hb; omega) w1 h.dk rfl hb f hf).mono fun _ _ ⟨e1, h1⟩ => ⟨e1, h.go h1, h1⟩
theorem createB_sd (h : Sd w w1 ⟨d, m, c, L, true, none⟩) (s : List UInt8) (hs : s.length ≤ 100000) (hb : bad s = true) :
    Calls Try.prog 10 #[ptr d, .string (B s)] w1 fun e w' => e = .returned (.int .i64 1) ∧ Sd w w' ⟨d, m, c, L, true, none⟩ ∧ Old w1 w' := by
  have hE : rdyE ⟨d, m, c, L, true, none⟩ [s] = 1 := by simp [rdyE, hb]
  have := create_rdy ⟨d, m, c, L, true, none⟩ s hs w1 h.dk (by rw [hE]; decide)
  rw [hE] at this
  exact this.mono fun _ _ ⟨e1, h1⟩ => ⟨e1, h.go h1, h1⟩
end
end Go.Proofs.Ytlhfcfalkmencaa
