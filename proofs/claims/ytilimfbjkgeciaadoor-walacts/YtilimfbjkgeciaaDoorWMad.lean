/-
  A text of many bytes that a law makes; the words that several laws use. No conditions.
-/
import Derived.Test.YtilimfbjkgeciaaDoorWAct
import Derived.Test.YtilimfbjkgeciaaDoorWCut
import Derived.Test.YtilimfbjkgeciaaDoorCRef
namespace Go.Proofs.YtilimfbjkgeciaaDoor
set_option maxRecDepth 100000
open Go.RowKit Go.Shelf

/-- string(v), v a slice whose cells are these bytes. -/
theorem run_strAt {w : World} {g cap : Nat} (l : List UInt8) (h : ∀ j u, (bs l)[j]? = some u → w.cell? (Addr.add ⟨g, 0, none⟩ j) = some u) :
    (convert 54 9 (.slice (some ⟨g, 0, none⟩) l.length cap)).run Tryd.prog w = .ok (.string (B l)) w := by
  rw [run_convert_bytes_string w _ _ _ _ _ _ Tryd.underlying54 Tryd.underlying5 Tryd.underlying9]
  rw [run_bytesToString w ⟨g, 0, none⟩ l.length cap (l.map fun b => (b.toNat : Int)) ?_]
  · rw [fold_push]
    show Result.ok (Value.string ⟨#[] ++ l.toArray⟩) w = _
    rw [Array.empty_append]
  · have h1 := run_loadCells_list (P := Tryd.prog) w ⟨g, 0, none⟩ (bs l) h
    rw [bs_length] at h1
    rw [h1]
    simp [bs]

/-- string(make([]byte, n)): n bytes 0. -/
theorem made (N : Nat) (hN : N ≤ 100000) (w : World) : ∃ w1 v, (Instr.makeSlice 54 (.int .i64 N) (.int .i64 N)).run Tryd.prog w = .ok v w1 ∧
    (convert 54 9 v).run Tryd.prog w1 = .ok (.string (B (List.replicate N 0))) w1 ∧ Old w w1 := by
  obtain ⟨i0, hi, hz0, hz1, hz2⟩ := info_parts Tryd.info5
  have hr := run_make (P := Tryd.prog) w 54 5 i0 (.int .u8 0) Tryd.underlying54 hi hz0 .i64 .i64 N N (by omega) (by omega) (by rw [hz2]; omega) (by omega)
  refine ⟨_, _, hr, ?_, old_alloc _ _⟩
  rw [Int.toNat_natCast, hz1, Nat.mul_one]
  have h2 := run_strAt (w := w.alloc (.cells (madeCells (Value.int .u8 0).cells N) 5)) (g := w.heap.size) (cap := N) (List.replicate N 0) ?_
  · rw [List.length_replicate] at h2
    exact h2
  · intro j u hu
    have h1 := cell_of_row _ w.heap.size j _ _ _ (heap_alloc_new w (.cells (madeCells (Value.int .u8 0).cells N) 5))
    rw [Addr.add_lit, Nat.zero_add, h1]
    simp only [bs, List.map_replicate, List.getElem?_replicate] at hu
    split at hu
    · rename_i hj
      cases hu
      simp [madeCells, hj, Value.cells, Nat.mod_one]
    · cases hu

def logN : List UInt8 := [108, 111, 103]
theorem nmL : Nm logN := ⟨by decide, by decide⟩
theorem same_texts (l m : List (List UInt8)) (A A' : Option Addr) (c c' : Nat) (hl : l.length ≤ 1000000) (hm : m.length ≤ 1000000) (w : World) (hA : Strs w A c l) (hA' : Strs w A' c' m) (b : Bool) (hb : decide (l = m) = b) :
    Calls Tryd.prog 12 #[.slice A l.length c, .slice A' m.length c'] w fun e w' => e = .returned (.bool b) ∧ Old w w' := by
  subst hb
  exact same_any l m A A' c c' hl hm w hA hA'
theorem strs_zero (w : World) : Strs w none 0 [] := ⟨Nat.le_refl _, fun i t ht => by simp at ht⟩
theorem off_app (x : List UInt8) (p : Pd) (many : Nat) (l : List (List UInt8)) : pappendL x p many true l = ⟨p, many, true, 6⟩ := rfl
theorem off_res (x : List UInt8) (p : Pd) (many : Nat) (l : List (List UInt8)) : presetL x p many true l = ⟨p, many, true, 6⟩ := rfl
theorem wide_app (x : List UInt8) (p : Pd) (many : Nat) {l : List (List UInt8)} (h : l.any wideT = true) : pappendL x p many false l = ⟨p, many, false, 71⟩ := by
  unfold pappendL pchange
  rw [if_neg (by decide), if_pos h]
theorem wide_res (x : List UInt8) (p : Pd) (many : Nat) {l : List (List UInt8)} (h : l.any wideT = true) : presetL x p many false l = ⟨p, many, false, 71⟩ := by
  unfold presetL pchange
  rw [if_neg (by decide), if_pos h]
end Go.Proofs.YtilimfbjkgeciaaDoor
