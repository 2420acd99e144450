/-
  Read of the document's own disk. Conditions: the files lie in memory.
-/
import Derived.Test.YtilimfbjkgeciaaDoorRSet
namespace Go.Proofs.YtilimfbjkgeciaaDoor
set_option maxRecDepth 100000
open Go.RowKit

set_option maxHeartbeats 4000000 in
theorem rread_any (A : Option Addr) (c : Nat) (r : Pd) (s : List UInt8) (hl : r.files.length ≤ 1000) (w : World) (h : Flt w (.slice A r.files.length c) r.files) :
    Calls Tryd.prog 32 #[Rv (.slice A r.files.length c) r, .string (B s)] w fun e w' => e = .returned (.tuple #[.string (B (pread r s).1), .int .i64 (pread r s).2]) ∧ Old w w' := by
  obtain ⟨cap, F, up, left, keep⟩ := r
  simp only at hl h ⊢
  have hlc := h.1.room
  obtain ⟨R, hR⟩ : ∃ R, R = pread ⟨cap, F, up, left, keep⟩ s := ⟨_, rfl⟩
  rw [← hR]
  have o0 := old_alloc w (.cells #[.int .i64 (cap : Int), .slice A F.length c, .bool (!up), .int .i64 (left : Int), .int .i64 keep] 29)
  have b2 := new_bk w 29 #[.int .i64 (cap : Int), .slice A F.length c, .bool (!up), .int .i64 (left : Int), .int .i64 keep]
  have H := Lib.hid (show _ ∧ _ from ⟨o0, b2⟩)
  have HW := Lib.hid (fun w1 => rwrong_any (.slice A F.length c) ⟨cap, F, up, left, keep⟩ s w1)
  have HFL := Lib.hid h
  have HR := Lib.hid hR
  clear o0 b2 h hR
  obtain ⟨E, hE⟩ : ∃ E, E = perr ⟨cap, F, up, left, keep⟩ s := ⟨_, rfl⟩
  rw [← hE] at HW
  have HE := Lib.hid hE
  clear hE
  go_enter Tryd.func32, Tryd.ntmps32
  go_wp2_with fail
  refine (HW.out _).mono ?_
  rintro e w1 ⟨rfl, o1⟩
  obtain ⟨o0, b2⟩ := H.out
  have o := o0.tr o1
  have b2 := b2.old o1
  clear o0 o1 H
  have c0 : w1.cell? ⟨w.heap.size, 0, none⟩ = some (.int .i64 (cap : Int)) := b2.at_ 0 rfl
  have c1 : w1.cell? ⟨w.heap.size, 1, none⟩ = some (.slice A F.length c) := b2.at_ 1 rfl
  have c2 : w1.cell? ⟨w.heap.size, 2, none⟩ = some (.bool (!up)) := b2.at_ 2 rfl
  have c3 : w1.cell? ⟨w.heap.size, 3, none⟩ = some (.int .i64 (left : Int)) := b2.at_ 3 rfl
  have c4 : w1.cell? ⟨w.heap.size, 4, none⟩ = some (.int .i64 keep) := b2.at_ 4 rfl
  have HFD := Lib.hid (rfind_any A c ⟨cap, F, up, left, keep⟩ s hl w1 (HFL.out.1.old o))
  go_wp2_with fail
  refine HFD.out.mono ?_
  rintro e w2 ⟨i, rfl, hi, o1⟩
  have o := o.tr o1
  have b2 := b2.old o1
  clear HFD o1 c0 c1 c2 c3 c4
  by_cases he : E ≠ 0
  · have HX := Lib.hid (show R = ([], E) by rw [HR.out]; unfold pread pneed; rw [← HE.out, if_pos he, if_pos he])
    have hb : (E != 0) = true := by simpa using he
    clear he HR HE hi
    go_wp2
    refine bodyPost_ret (v := .tuple #[.string (B []), .int .i64 E]) (by simp [results, Tryd.results32, go_sem, B]) rfl ?_
    rw [HX.out]
    exact ⟨rfl, o⟩
  obtain rfl : E = 0 := by simpa using he
  clear he
  rcases hi with ⟨hn, rfl⟩ | ⟨k, f, hf, hk, rfl⟩
  · have HX := Lib.hid (show R = ([], 3) by
      rw [HR.out]; unfold pread pneed; rw [← HE.out]; simp [hn])
    clear HR HE hn
    go_wp2
    refine bodyPost_ret (v := .tuple #[.string (B []), .int .i64 3]) (by simp [results, Tryd.results32, go_sem, B]) rfl ?_
    rw [HX.out]
    exact ⟨rfl, o⟩
  have hkI : decide ((k : Int) < 0) = false := by rw [decide_eq_false_iff_not]; omega
  have HX := Lib.hid (show R = (f.s, 0) by
    rw [HR.out]; unfold pread pneed; rw [← HE.out]; simp [hf])
  have hkl : k < F.length := at_len hk
  have c1 : w2.cell? ⟨w.heap.size, 1, none⟩ = some (.slice A F.length c) := b2.at_ 1 rfl
  obtain ⟨b, off, rfl, a0, a1, a2⟩ := (HFL.out.1.old o).at_ hk
  clear HR HE hf hk b2
  go_wp2
  refine bodyPost_ret (v := .tuple #[.string (B f.s), .int .i64 0]) (by simp [results, Tryd.results32, go_sem, B]) rfl ?_
  rw [HX.out]
  exact ⟨rfl, o⟩
end Go.Proofs.YtilimfbjkgeciaaDoor
