/-
  done of the document's own disk, the way on which the files stay as they were, and all ways. Conditions: the files lie in memory; lengths as written.
-/
import Derived.Test.YtilimfbjkgeciaaDoorRDon
import Derived.Deep.Cut
namespace Go.Proofs.YtilimfbjkgeciaaDoor
set_option maxRecDepth 100000
open Go.RowKit

theorem ne10 (w : World) : w.heap.size + 1 ≠ w.heap.size := by omega
theorem ne01 (w : World) : w.heap.size ≠ w.heap.size + 1 := by omega
set_option maxHeartbeats 4000000 in
theorem rdone_y (A A' : Option Addr) (c c' : Nat) (r : Pd) (L : List Pf) (always : Bool) (hF : Fin r.files) (hL : Fin L) (hl : r.left = 1) (ha : always = false) (hm : r.keep.tmod 2 = 0) (w : World) (h : Flt w (.slice A r.files.length c) r.files) (h' : Flt w (.slice A' L.length c') L) :
    Calls Tryd.prog 66 #[Rv (.slice A r.files.length c) r, Rv (.slice A' L.length c') ⟨r.cap, L, r.up, r.left, r.keep⟩, .bool always] w (PostR w (rgate r always L)) := by
  obtain ⟨cap, F, up, left, keep⟩ := r
  simp only at hF hl h ⊢
  obtain ⟨R, hR⟩ : ∃ R, R = rgate ⟨cap, F, up, left, keep⟩ always L := ⟨_, rfl⟩
  rw [← hR]
  have o0 := ((old_alloc w (.cells #[.int .i64 (cap : Int), .slice A F.length c, .bool (!up), .int .i64 (left : Int), .int .i64 keep] 29)).al (.cells #[.int .i64 (cap : Int), .slice A' L.length c', .bool (!up), .int .i64 (left : Int), .int .i64 keep] 29)).al (.cells zeroDsk 29)
  have b3 := ((new_bk w 29 #[.int .i64 (cap : Int), .slice A F.length c, .bool (!up), .int .i64 (left : Int), .int .i64 keep]).old (old_alloc _ (.cells #[.int .i64 (cap : Int), .slice A' L.length c', .bool (!up), .int .i64 (left : Int), .int .i64 keep] 29))).old (old_alloc _ (.cells zeroDsk 29))
  have b4 := (new_bk' (w.alloc (.cells #[.int .i64 (cap : Int), .slice A F.length c, .bool (!up), .int .i64 (left : Int), .int .i64 keep] 29)) 29 #[.int .i64 (cap : Int), .slice A' L.length c', .bool (!up), .int .i64 (left : Int), .int .i64 keep] (w.heap.size + 1) (by simp)).old (old_alloc _ (.cells zeroDsk 29))
  have b6 := new_bk' ((w.alloc (.cells #[.int .i64 (cap : Int), .slice A F.length c, .bool (!up), .int .i64 (left : Int), .int .i64 keep] 29)).alloc (.cells #[.int .i64 (cap : Int), .slice A' L.length c', .bool (!up), .int .i64 (left : Int), .int .i64 keep] 29)) 29 zeroDsk (w.heap.size + 1 + 1) (by simp)
  have HB := Lib.hid (rburns_any A F.length c ⟨cap, F, up, left, keep⟩ (show left ≤ 9223372036854775807 by omega) (((w.alloc (.cells #[.int .i64 (cap : Int), .slice A F.length c, .bool (!up), .int .i64 (left : Int), .int .i64 keep] 29)).alloc (.cells #[.int .i64 (cap : Int), .slice A' L.length c', .bool (!up), .int .i64 (left : Int), .int .i64 keep] 29)).alloc (.cells zeroDsk 29)))
  have H := Lib.hid (show _ ∧ _ ∧ _ ∧ _ from ⟨o0, b3, b4, b6⟩)
  have HFL := Lib.hid h
  have HFL' := Lib.hid h'
  have HFI := Lib.hid hF
  have HFI' := Lib.hid hL
  have HR := Lib.hid hR
  clear o0 b3 b4 b6 h h' hF hL hR
  subst hl
  rw [show decide ((⟨cap, F, up, 1, keep⟩ : Pd).left = 1) = true from rfl] at HB
  subst ha
  simp only at hm
  have HX := Lib.hid (show R = (⟨cap, F.map (pcr keep), false, 0, keep⟩, 6) by rw [HR.out]; exact rgate_off ⟨cap, F, up, 1, keep⟩ L rfl hm)
  have m1 : (keep.tmod 2 != 1) = true := by rw [hm]; rfl
  have m2 : (keep.tmod 2 != -1) = true := by rw [hm]; rfl
  clear HR hm
  go_enter Tryd.func66, Tryd.ntmps66
  go_wp2_with fail
  refine HB.out.mono ?_
  rintro e w1 ⟨rfl, o1⟩
  obtain ⟨o0, b3, b4, b6⟩ := H.out
  have o := o0.tr o1
  have b3 := b3.old o1
  have b4 := b4.old o1
  have b6 := b6.old o1
  have c0 : w1.cell? ⟨w.heap.size, 0, none⟩ = some (.int .i64 (cap : Int)) := b3.at_ 0 rfl
  have c1 : w1.cell? ⟨w.heap.size, 1, none⟩ = some (.slice A F.length c) := b3.at_ 1 rfl
  have c2 : w1.cell? ⟨w.heap.size, 2, none⟩ = some (.bool (!up)) := b3.at_ 2 rfl
  have c3 : w1.cell? ⟨w.heap.size, 3, none⟩ = some (.int .i64 1) := b3.at_ 3 rfl
  have c4 : w1.cell? ⟨w.heap.size, 4, none⟩ = some (.int .i64 keep) := b3.at_ 4 rfl
  have d0 : w1.cell? ⟨w.heap.size + 1, 0, none⟩ = some (.int .i64 (cap : Int)) := b4.at_ 0 rfl
  have d1 : w1.cell? ⟨w.heap.size + 1, 1, none⟩ = some (.slice A' L.length c') := b4.at_ 1 rfl
  have d2 : w1.cell? ⟨w.heap.size + 1, 2, none⟩ = some (.bool (!up)) := b4.at_ 2 rfl
  have d3 : w1.cell? ⟨w.heap.size + 1, 3, none⟩ = some (.int .i64 1) := b4.at_ 3 rfl
  have d4 : w1.cell? ⟨w.heap.size + 1, 4, none⟩ = some (.int .i64 keep) := b4.at_ 4 rfl
  have e0 : w1.cell? ⟨w.heap.size + 1 + 1, 0, none⟩ = some (.int .i64 0) := b6.at_ 0 rfl
  have e1 : w1.cell? ⟨w.heap.size + 1 + 1, 1, none⟩ = some (.slice none 0 0) := b6.at_ 1 rfl
  have e2 : w1.cell? ⟨w.heap.size + 1 + 1, 2, none⟩ = some (.bool false) := b6.at_ 2 rfl
  have e3 : w1.cell? ⟨w.heap.size + 1 + 1, 3, none⟩ = some (.int .i64 0) := b6.at_ 3 rfl
  have e4 : w1.cell? ⟨w.heap.size + 1 + 1, 4, none⟩ = some (.int .i64 0) := b6.at_ 4 rfl
  have cf0 := b3.fr 0
  have cf1 := b3.fr 1
  have cf2 := b3.fr 2
  have cf3 := b3.fr 3
  have cf4 := b3.fr 4
  have df0 := b4.fr 0
  have df1 := b4.fr 1
  have df2 := b4.fr 2
  have df3 := b4.fr 3
  have df4 := b4.fr 4
  have ef0 := b6.fr 0
  have ef1 := b6.fr 1
  have ef2 := b6.fr 2
  have ef3 := b6.fr 3
  have ef4 := b6.fr 4
  unfold rburn
  simp only
  clear H HB o0 o1
  have oX := Lib.hid (((((((((((o.st (p := ⟨w.heap.size, 0, none⟩) (Nat.le_refl _) (.int .i64 (cap : Int))).st (p := ⟨w.heap.size, 1, none⟩) (Nat.le_refl _) (.slice A F.length c)).st (p := ⟨w.heap.size, 2, none⟩) (Nat.le_refl _) (.bool (!up))).st (p := ⟨w.heap.size, 3, none⟩) (Nat.le_refl _) (.int .i64 0)).st (p := ⟨w.heap.size, 4, none⟩) (Nat.le_refl _) (.int .i64 keep)).st (p := ⟨w.heap.size + 1, 3, none⟩) (Nat.le_add_right _ _) (.int .i64 0)).st (p := ⟨w.heap.size + 1, 0, none⟩) (Nat.le_add_right _ _) (.int .i64 (cap : Int))).st (p := ⟨w.heap.size + 1, 1, none⟩) (Nat.le_add_right _ _) (.slice A F.length c)).st (p := ⟨w.heap.size + 1, 2, none⟩) (Nat.le_add_right _ _) (.bool (!up))).st (p := ⟨w.heap.size + 1, 3, none⟩) (Nat.le_add_right _ _) (.int .i64 0)).st (p := ⟨w.heap.size + 1, 4, none⟩) (Nat.le_add_right _ _) (.int .i64 keep))
  have b3X := Lib.hid (((((((bk5 b3 (.int .i64 (cap : Int)) (.slice A F.length c) (.bool (!up)) (.int .i64 0) (.int .i64 keep)).far (p := ⟨w.heap.size + 1, 3, none⟩) (ne01 w) (.int .i64 0)).far (p := ⟨w.heap.size + 1, 0, none⟩) (ne01 w) (.int .i64 (cap : Int))).far (p := ⟨w.heap.size + 1, 1, none⟩) (ne01 w) (.slice A F.length c)).far (p := ⟨w.heap.size + 1, 2, none⟩) (ne01 w) (.bool (!up))).far (p := ⟨w.heap.size + 1, 3, none⟩) (ne01 w) (.int .i64 0)).far (p := ⟨w.heap.size + 1, 4, none⟩) (ne01 w) (.int .i64 keep))
  have b4X := Lib.hid (bk5 ((((((b4.far (p := ⟨w.heap.size, 0, none⟩) (ne10 w) (.int .i64 (cap : Int))).far (p := ⟨w.heap.size, 1, none⟩) (ne10 w) (.slice A F.length c)).far (p := ⟨w.heap.size, 2, none⟩) (ne10 w) (.bool (!up))).far (p := ⟨w.heap.size, 3, none⟩) (ne10 w) (.int .i64 0)).far (p := ⟨w.heap.size, 4, none⟩) (ne10 w) (.int .i64 keep)).set_ 3 (.int .i64 0)) (.int .i64 (cap : Int)) (.slice A F.length c) (.bool (!up)) (.int .i64 0) (.int .i64 keep))
  have b6X := Lib.hid (((((((((((b6.far (p := ⟨w.heap.size, 0, none⟩) (ne20 w) (.int .i64 (cap : Int))).far (p := ⟨w.heap.size, 1, none⟩) (ne20 w) (.slice A F.length c)).far (p := ⟨w.heap.size, 2, none⟩) (ne20 w) (.bool (!up))).far (p := ⟨w.heap.size, 3, none⟩) (ne20 w) (.int .i64 0)).far (p := ⟨w.heap.size, 4, none⟩) (ne20 w) (.int .i64 keep)).far (p := ⟨w.heap.size + 1, 3, none⟩) (ne21 w) (.int .i64 0)).far (p := ⟨w.heap.size + 1, 0, none⟩) (ne21 w) (.int .i64 (cap : Int))).far (p := ⟨w.heap.size + 1, 1, none⟩) (ne21 w) (.slice A F.length c)).far (p := ⟨w.heap.size + 1, 2, none⟩) (ne21 w) (.bool (!up))).far (p := ⟨w.heap.size + 1, 3, none⟩) (ne21 w) (.int .i64 0)).far (p := ⟨w.heap.size + 1, 4, none⟩) (ne21 w) (.int .i64 keep))
  clear b3 b4 b6 o
  go_upto_region 7 with (fail)
  have o := oX.out
  have b3 := b3X.out
  have b4 := b4X.out
  have b6 := b6X.out
  clear oX b3X b4X b6X m1 m2 c0 d0 e0 cf0 df0 ef0 c1 d1 e1 cf1 df1 ef1 c2 d2 e2 cf2 df2 ef2 c3 d3 e3 cf3 df3 ef3 c4 d4 e4 cf4 df4 ef4
  generalize (((((((((((w1.setCell ⟨w.heap.size, 0, none⟩ (.int .i64 (cap : Int))).setCell ⟨w.heap.size, 1, none⟩ (.slice A F.length c)).setCell ⟨w.heap.size, 2, none⟩ (.bool (!up))).setCell ⟨w.heap.size, 3, none⟩ (.int .i64 0)).setCell ⟨w.heap.size, 4, none⟩ (.int .i64 keep)).setCell ⟨w.heap.size + 1, 3, none⟩ (.int .i64 0)).setCell ⟨w.heap.size + 1, 0, none⟩ (.int .i64 (cap : Int))).setCell ⟨w.heap.size + 1, 1, none⟩ (.slice A F.length c)).setCell ⟨w.heap.size + 1, 2, none⟩ (.bool (!up))).setCell ⟨w.heap.size + 1, 3, none⟩ (.int .i64 0)).setCell ⟨w.heap.size + 1, 4, none⟩ (.int .i64 keep)) = W1 at *
  have c0 : W1.cell? ⟨w.heap.size, 0, none⟩ = some (.int .i64 (cap : Int)) := b3.at_ 0 rfl
  have c1 : W1.cell? ⟨w.heap.size, 1, none⟩ = some (.slice A F.length c) := b3.at_ 1 rfl
  have c2 : W1.cell? ⟨w.heap.size, 2, none⟩ = some (.bool (!up)) := b3.at_ 2 rfl
  have c3 : W1.cell? ⟨w.heap.size, 3, none⟩ = some (.int .i64 0) := b3.at_ 3 rfl
  have c4 : W1.cell? ⟨w.heap.size, 4, none⟩ = some (.int .i64 keep) := b3.at_ 4 rfl
  have d0 : W1.cell? ⟨w.heap.size + 1, 0, none⟩ = some (.int .i64 (cap : Int)) := b4.at_ 0 rfl
  have d1 : W1.cell? ⟨w.heap.size + 1, 1, none⟩ = some (.slice A F.length c) := b4.at_ 1 rfl
  have d2 : W1.cell? ⟨w.heap.size + 1, 2, none⟩ = some (.bool (!up)) := b4.at_ 2 rfl
  have d3 : W1.cell? ⟨w.heap.size + 1, 3, none⟩ = some (.int .i64 0) := b4.at_ 3 rfl
  have d4 : W1.cell? ⟨w.heap.size + 1, 4, none⟩ = some (.int .i64 keep) := b4.at_ 4 rfl
  have HC := Lib.hid (rcrash_any A c ⟨cap, F, up, 0, keep⟩ keep HFI.out W1 (HFL.out.1.old o))
  have oC := Lib.hid o
  have bC := Lib.hid b6
  clear b3 b4 b6 o
  go_wp2_with fail
  refine HC.out.mono ?_
  rintro e w2 ⟨A9, c9, rfl, hfl, o2⟩
  have o := oC.out.tr o2
  have b6 := bC.out.old o2
  clear oC bC HC o2 c0 d0 c1 d1 c2 d2 c3 d3 c4 d4
  have e0 : w2.cell? ⟨w.heap.size + 1 + 1, 0, none⟩ = some (.int .i64 0) := b6.at_ 0 rfl
  have e1 : w2.cell? ⟨w.heap.size + 1 + 1, 1, none⟩ = some (.slice none 0 0) := b6.at_ 1 rfl
  have e2 : w2.cell? ⟨w.heap.size + 1 + 1, 2, none⟩ = some (.bool false) := b6.at_ 2 rfl
  have e3 : w2.cell? ⟨w.heap.size + 1 + 1, 3, none⟩ = some (.int .i64 0) := b6.at_ 3 rfl
  have e4 : w2.cell? ⟨w.heap.size + 1 + 1, 4, none⟩ = some (.int .i64 0) := b6.at_ 4 rfl
  have ef0 := b6.fr 0
  have ef1 := b6.fr 1
  have ef2 := b6.fr 2
  have ef3 := b6.fr 3
  have ef4 := b6.fr 4
  have oF := Lib.hid (((((o.st (p := ⟨w.heap.size + 1 + 1, 0, none⟩) (le2 w) (.int .i64 (cap : Int))).st (p := ⟨w.heap.size + 1 + 1, 1, none⟩) (le2 w) (.slice A9 F.length c9)).st (p := ⟨w.heap.size + 1 + 1, 2, none⟩) (le2 w) (.bool true)).st (p := ⟨w.heap.size + 1 + 1, 3, none⟩) (le2 w) (.int .i64 0)).st (p := ⟨w.heap.size + 1 + 1, 4, none⟩) (le2 w) (.int .i64 keep))
  have bF := Lib.hid (bk5 b6 (.int .i64 (cap : Int)) (.slice A9 F.length c9) (.bool true) (.int .i64 0) (.int .i64 keep))
  have HFB := Lib.hid (hfl.far5 b6 (by decide) (.int .i64 (cap : Int)) (.slice A9 F.length c9) (.bool true) (.int .i64 0) (.int .i64 keep))
  clear b6 o hfl
  unfold rcrash
  go_wp2
  have h1 := oF.out
  have h2 := bF.out
  have h3 := HFB.out
  clear oF bF HFB
  generalize (((((w2.setCell ⟨w.heap.size + 1 + 1, 0, none⟩ (.int .i64 (cap : Int))).setCell ⟨w.heap.size + 1 + 1, 1, none⟩ (.slice A9 F.length c9)).setCell ⟨w.heap.size + 1 + 1, 2, none⟩ (.bool true)).setCell ⟨w.heap.size + 1 + 1, 3, none⟩ (.int .i64 0)).setCell ⟨w.heap.size + 1 + 1, 4, none⟩ (.int .i64 keep)) = WF at *
  have z0 : WF.cell? ⟨w.heap.size + 1 + 1, 0, none⟩ = some (.int .i64 (cap : Int)) := h2.at_ 0 rfl
  have z1 : WF.cell? ⟨w.heap.size + 1 + 1, 1, none⟩ = some (.slice A9 F.length c9) := h2.at_ 1 rfl
  have z2 : WF.cell? ⟨w.heap.size + 1 + 1, 2, none⟩ = some (.bool true) := h2.at_ 2 rfl
  have z3 : WF.cell? ⟨w.heap.size + 1 + 1, 3, none⟩ = some (.int .i64 0) := h2.at_ 3 rfl
  have z4 : WF.cell? ⟨w.heap.size + 1 + 1, 4, none⟩ = some (.int .i64 keep) := h2.at_ 4 rfl
  refine bodyPost_ret (v := .tuple #[Rv (.slice A9 F.length c9) ⟨cap, F.map (pcr keep), false, 0, keep⟩, .int .i64 6]) (by simp [results, Tryd.results66, go_sem, z0, z1, z2, z3, z4]) rfl ?_
  rw [HX.out]
  exact ⟨A9, c9, by rw [List.length_map], by rw [List.length_map]; exact h3, h1⟩

theorem rdone_any (A A' : Option Addr) (c c' : Nat) (r : Pd) (L : List Pf) (always : Bool) (hF : Fin r.files) (hL : Fin L) (hl : r.left ≤ 9223372036854775807) (w : World) (h : Flt w (.slice A r.files.length c) r.files) (h' : Flt w (.slice A' L.length c') L) :
    Calls Tryd.prog 66 #[Rv (.slice A r.files.length c) r, Rv (.slice A' L.length c') ⟨r.cap, L, r.up, r.left, r.keep⟩, .bool always] w (PostR w (rgate r always L)) := by
  by_cases h1 : r.left = 1
  · cases always with
    | true => exact rdone_t A A' c c' r L true hF hL h1 rfl w h h'
    | false =>
      rcases tmod2 r.keep with hm | hm | hm
      · exact rdone_y A A' c c' r L false hF hL h1 rfl hm w h h'
      · exact rdone_p A A' c c' r L false hF hL h1 rfl hm w h h'
      · exact rdone_n A A' c c' r L false hF hL h1 rfl hm w h h'
  · exact rdone_more A A' c c' r L always hF hL hl h1 w h h'
end Go.Proofs.YtilimfbjkgeciaaDoor
