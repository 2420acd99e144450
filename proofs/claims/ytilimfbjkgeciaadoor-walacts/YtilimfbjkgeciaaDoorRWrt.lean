/-
  write of the document's own log: a file is written wholly. Conditions: a disk that holds a log's files alone.
-/
import Derived.Test.YtilimfbjkgeciaaDoorRJG
import Derived.Test.YtilimfbjkgeciaaDoorRAS
import Derived.Test.YtilimfbjkgeciaaDoorRRed
namespace Go.Proofs.YtilimfbjkgeciaaDoor
set_option maxRecDepth 100000
open Go.RowKit

def rthen (a : Pd × Int) (f : Pd → Pd × Int) : Pd × Int := if a.2 = 0 then f a.1 else a
theorem rthen_no {a : Pd} {E : Int} (h : E ≠ 0) (f : Pd → Pd × Int) : rthen (a, E) f = (a, E) := if_neg h
theorem rthen_yes (a : Pd) (f : Pd → Pd × Int) : rthen (a, 0) f = f a := if_pos rfl
/-- A file is written wholly. -/
def rwrite (x s : List UInt8) (r : Pd) : Pd × Int :=
  if (rdelete r (side x)).2 ≠ 0 ∧ (rdelete r (side x)).2 ≠ 3 then rdelete r (side x)
  else rthen (rthen (rthen (rcreate (rdelete r (side x)).1 (side x)) fun d => rappend d (side x) s) fun d => rsync d (side x)) fun d => rrename d (side x) x
theorem bfar5 {w : World} {g g' : Nat} {t : TypeId} {cs : Array Value} (h : Bk w g t cs) (hne : g ≠ g') (v0 v1 v2 v3 v4 : Value) :
    Bk (((((w.setCell ⟨g', 0, none⟩ v0).setCell ⟨g', 1, none⟩ v1).setCell ⟨g', 2, none⟩ v2).setCell ⟨g', 3, none⟩ v3).setCell ⟨g', 4, none⟩ v4) g t cs :=
  ((((h.far (p := ⟨g', 0, none⟩) hne v0).far (p := ⟨g', 1, none⟩) hne v1).far (p := ⟨g', 2, none⟩) hne v2).far (p := ⟨g', 3, none⟩) hne v3).far (p := ⟨g', 4, none⟩) hne v4
set_option maxHeartbeats 8000000 in
theorem rwrite_any (A : Option Addr) (c : Nat) (r : Pd) (x s : List UInt8) (hG : Good x r) (hx : x.length ≤ 1000) (hs : s.length ≤ 1000000000000) (w : World) (h : Flt w (.slice A r.files.length c) r.files) :
    Calls Tryd.prog 34 #[Rv (.slice A r.files.length c) r, .string (B x), .string (B s)] w (PostR w (rwrite x s r)) := by
  obtain ⟨cap, F, up, left, keep⟩ := r
  simp only at h ⊢
  obtain ⟨R, hR⟩ : ∃ R, R = rwrite x s ⟨cap, F, up, left, keep⟩ := ⟨_, rfl⟩
  rw [← hR]
  have o0 := (old_alloc w (.cells #[.int .i64 (cap : Int), .slice A F.length c, .bool (!up), .int .i64 (left : Int), .int .i64 keep] 29)).al (.cells zeroDsk 29)
  have b2 := (new_bk w 29 #[.int .i64 (cap : Int), .slice A F.length c, .bool (!up), .int .i64 (left : Int), .int .i64 keep]).old (old_alloc _ (.cells zeroDsk 29))
  have b4 := new_bk' (w.alloc (.cells #[.int .i64 (cap : Int), .slice A F.length c, .bool (!up), .int .i64 (left : Int), .int .i64 keep] 29)) 29 zeroDsk (w.heap.size + 1) (by simp)
  have hfl := h.old o0
  have HG := Lib.hid hG
  have HR := Lib.hid hR
  clear hR h hG
  have i7 : ¬ 9223372036854775807 < x.length + 1 := by omega
  have i8 : (9223372036854775807 < x.length + 1) = False := by simpa using i7
  have hadd : B x ++ ⟨#[43]⟩ = B (side x) := add_B x [43]
  have hn10 : w.heap.size + 1 ≠ w.heap.size := by omega
  go_enter Tryd.func34, Tryd.ntmps34
  go_upto_region 2 with (fail)
  generalize (w.alloc (.cells #[.int .i64 (cap : Int), .slice A F.length c, .bool (!up), .int .i64 (left : Int), .int .i64 keep] 29)).alloc (.cells zeroDsk 29) = W at *
  have o := o0
  have HFL := Lib.hid hfl
  clear o0 hfl
  obtain ⟨R1, hR1⟩ : ∃ R, R = rdelete ⟨cap, F, up, left, keep⟩ (side x) := ⟨_, rfl⟩
  have HC := rdelete_any A c ⟨cap, F, up, left, keep⟩ (side x) HG.out.fin HG.out.left W HFL.out
  rw [← hR1] at HC
  have HC := Lib.hid HC
  have HG1 := Lib.hid (show Good x R1.1 by rw [hR1]; exact good_delete HG.out (side x) (.inr rfl))
  have HR1 := Lib.hid hR1
  clear hR1
  have y0 : W.cell? ⟨w.heap.size, 0, none⟩ = some (.int .i64 (cap : Int)) := b2.at_ 0 rfl
  have y1 : W.cell? ⟨w.heap.size, 1, none⟩ = some (.slice A F.length c) := b2.at_ 1 rfl
  have y2 : W.cell? ⟨w.heap.size, 2, none⟩ = some (.bool (!up)) := b2.at_ 2 rfl
  have y3 : W.cell? ⟨w.heap.size, 3, none⟩ = some (.int .i64 (left : Int)) := b2.at_ 3 rfl
  have y4 : W.cell? ⟨w.heap.size, 4, none⟩ = some (.int .i64 keep) := b2.at_ 4 rfl
  go_wp2_with fail
  refine HC.out.mono ?_
  clear HC
  rintro e w1 ⟨A1, c1, rfl, hf, o1⟩
  have o := o.tr o1
  have b2 := b2.old o1
  have b4 := b4.old o1
  clear o1 y0 y1 y2 y3 y4 HFL
  obtain ⟨⟨cap1, F1, up1, left1, keep1⟩, E1⟩ := R1
  simp only at hf HG1
  have y0 : w1.cell? ⟨w.heap.size, 0, none⟩ = some (.int .i64 (cap : Int)) := b2.at_ 0 rfl
  have y1 : w1.cell? ⟨w.heap.size, 1, none⟩ = some (.slice A F.length c) := b2.at_ 1 rfl
  have y2 : w1.cell? ⟨w.heap.size, 2, none⟩ = some (.bool (!up)) := b2.at_ 2 rfl
  have y3 : w1.cell? ⟨w.heap.size, 3, none⟩ = some (.int .i64 (left : Int)) := b2.at_ 3 rfl
  have y4 : w1.cell? ⟨w.heap.size, 4, none⟩ = some (.int .i64 keep) := b2.at_ 4 rfl
  have yf0 := b2.fr 0
  have yf1 := b2.fr 1
  have yf2 := b2.fr 2
  have yf3 := b2.fr 3
  have yf4 := b2.fr 4
  have HH := Lib.hid (show _ ∧ _ ∧ _ ∧ _ from ⟨(((((o.st (p := ⟨w.heap.size, 0, none⟩) (Nat.le_refl _) (.int .i64 (cap1 : Int))).st (p := ⟨w.heap.size, 1, none⟩) (Nat.le_refl _) (.slice A1 F1.length c1)).st (p := ⟨w.heap.size, 2, none⟩) (Nat.le_refl _) (.bool (!up1))).st (p := ⟨w.heap.size, 3, none⟩) (Nat.le_refl _) (.int .i64 (left1 : Int))).st (p := ⟨w.heap.size, 4, none⟩) (Nat.le_refl _) (.int .i64 keep1)), (bk5 b2 (.int .i64 (cap1 : Int)) (.slice A1 F1.length c1) (.bool (!up1)) (.int .i64 (left1 : Int)) (.int .i64 keep1)), bfar5 b4 hn10 (.int .i64 (cap1 : Int)) (.slice A1 F1.length c1) (.bool (!up1)) (.int .i64 (left1 : Int)) (.int .i64 keep1), hf.far5 b2 (by decide) (.int .i64 (cap1 : Int)) (.slice A1 F1.length c1) (.bool (!up1)) (.int .i64 (left1 : Int)) (.int .i64 keep1)⟩)
  clear o b2 b4 hf
  go_upto_region 3 with (fail)
  obtain ⟨o, b2, b4, hf⟩ := HH.out
  clear HH y0 y1 y2 y3 y4 yf0 yf1 yf2 yf3 yf4
  generalize (((((w1.setCell ⟨w.heap.size, 0, none⟩ (.int .i64 (cap1 : Int))).setCell ⟨w.heap.size, 1, none⟩ (.slice A1 F1.length c1)).setCell ⟨w.heap.size, 2, none⟩ (.bool (!up1))).setCell ⟨w.heap.size, 3, none⟩ (.int .i64 (left1 : Int))).setCell ⟨w.heap.size, 4, none⟩ (.int .i64 keep1)) = W1 at *
  have HFL1 := Lib.hid hf
  clear hf
  by_cases h1 : E1 ≠ 0 ∧ E1 ≠ 3
  · have HX := Lib.hid (show R = (⟨cap1, F1, up1, left1, keep1⟩, E1) by rw [HR.out]; unfold rwrite; rw [← HR1.out, if_pos h1])
    have ha : (E1 != 0) = true := by simpa using h1.1
    have hb : (E1 != 3) = true := by simpa using h1.2
    clear h1 HR HR1
    have y0 : W1.cell? ⟨w.heap.size, 0, none⟩ = some (.int .i64 (cap1 : Int)) := b2.at_ 0 rfl
    have y1 : W1.cell? ⟨w.heap.size, 1, none⟩ = some (.slice A1 F1.length c1) := b2.at_ 1 rfl
    have y2 : W1.cell? ⟨w.heap.size, 2, none⟩ = some (.bool (!up1)) := b2.at_ 2 rfl
    have y3 : W1.cell? ⟨w.heap.size, 3, none⟩ = some (.int .i64 (left1 : Int)) := b2.at_ 3 rfl
    have y4 : W1.cell? ⟨w.heap.size, 4, none⟩ = some (.int .i64 keep1) := b2.at_ 4 rfl
    have d0 : W1.cell? ⟨w.heap.size + 1, 0, none⟩ = some (.int .i64 0) := b4.at_ 0 rfl
    have d1 : W1.cell? ⟨w.heap.size + 1, 1, none⟩ = some (.slice none 0 0) := b4.at_ 1 rfl
    have d2 : W1.cell? ⟨w.heap.size + 1, 2, none⟩ = some (.bool false) := b4.at_ 2 rfl
    have d3 : W1.cell? ⟨w.heap.size + 1, 3, none⟩ = some (.int .i64 0) := b4.at_ 3 rfl
    have d4 : W1.cell? ⟨w.heap.size + 1, 4, none⟩ = some (.int .i64 0) := b4.at_ 4 rfl
    have df0 := b4.fr 0
    have df1 := b4.fr 1
    have df2 := b4.fr 2
    have df3 := b4.fr 3
    have df4 := b4.fr 4
    have oF := Lib.hid (((((o.st (p := ⟨w.heap.size + 1, 0, none⟩) (Nat.le_add_right _ _) (.int .i64 (cap1 : Int))).st (p := ⟨w.heap.size + 1, 1, none⟩) (Nat.le_add_right _ _) (.slice A1 F1.length c1)).st (p := ⟨w.heap.size + 1, 2, none⟩) (Nat.le_add_right _ _) (.bool (!up1))).st (p := ⟨w.heap.size + 1, 3, none⟩) (Nat.le_add_right _ _) (.int .i64 (left1 : Int))).st (p := ⟨w.heap.size + 1, 4, none⟩) (Nat.le_add_right _ _) (.int .i64 keep1))
    have bF := Lib.hid (bk5 b4 (.int .i64 (cap1 : Int)) (.slice A1 F1.length c1) (.bool (!up1)) (.int .i64 (left1 : Int)) (.int .i64 keep1))
    have HFB := Lib.hid (HFL1.out.far5 b4 (by decide) (.int .i64 (cap1 : Int)) (.slice A1 F1.length c1) (.bool (!up1)) (.int .i64 (left1 : Int)) (.int .i64 keep1))
    clear o b4 b2
    go_wp2
    have h1 := oF.out
    have h2 := bF.out
    have h3 := HFB.out
    clear oF bF HFB
    generalize (((((W1.setCell ⟨w.heap.size + 1, 0, none⟩ (.int .i64 (cap1 : Int))).setCell ⟨w.heap.size + 1, 1, none⟩ (.slice A1 F1.length c1)).setCell ⟨w.heap.size + 1, 2, none⟩ (.bool (!up1))).setCell ⟨w.heap.size + 1, 3, none⟩ (.int .i64 (left1 : Int))).setCell ⟨w.heap.size + 1, 4, none⟩ (.int .i64 keep1)) = WF at *
    have z0 : WF.cell? ⟨w.heap.size + 1, 0, none⟩ = some (.int .i64 (cap1 : Int)) := h2.at_ 0 rfl
    have z1 : WF.cell? ⟨w.heap.size + 1, 1, none⟩ = some (.slice A1 F1.length c1) := h2.at_ 1 rfl
    have z2 : WF.cell? ⟨w.heap.size + 1, 2, none⟩ = some (.bool (!up1)) := h2.at_ 2 rfl
    have z3 : WF.cell? ⟨w.heap.size + 1, 3, none⟩ = some (.int .i64 (left1 : Int)) := h2.at_ 3 rfl
    have z4 : WF.cell? ⟨w.heap.size + 1, 4, none⟩ = some (.int .i64 keep1) := h2.at_ 4 rfl
    refine bodyPost_ret (v := .tuple #[Rv (.slice A1 F1.length c1) ⟨cap1, F1, up1, left1, keep1⟩, .int .i64 E1]) (by simp [results, Tryd.results34, go_sem, z0, z1, z2, z3, z4]) rfl ?_
    rw [HX.out]
    exact ⟨_, _, rfl, h3, h1⟩
  have HR' := Lib.hid (show R = rthen (rthen (rthen (rcreate ⟨cap1, F1, up1, left1, keep1⟩ (side x)) fun d => rappend d (side x) s) fun d => rsync d (side x)) fun d => rrename d (side x) x by rw [HR.out]; unfold rwrite; rw [← HR1.out, if_neg h1])
  have h2 : E1 = 0 ∨ E1 = 3 := by omega
  clear HR HR1 h1
  rcases h2 with rfl | rfl
  · obtain ⟨R2, hR2⟩ : ∃ R, R = rcreate ⟨cap1, F1, up1, left1, keep1⟩ (side x) := ⟨_, rfl⟩
    have HC := rcreate_any A1 c1 ⟨cap1, F1, up1, left1, keep1⟩ (side x) HG1.out.fin HG1.out.left (top_create HG1.out) W1 HFL1.out
    rw [← hR2] at HC
    have HC := Lib.hid HC
    have HG2 := Lib.hid (show Good x R2.1 by rw [hR2]; exact good_create HG1.out)
    have HR2 := Lib.hid hR2
    clear hR2
    have y0 : W1.cell? ⟨w.heap.size, 0, none⟩ = some (.int .i64 (cap1 : Int)) := b2.at_ 0 rfl
    have y1 : W1.cell? ⟨w.heap.size, 1, none⟩ = some (.slice A1 F1.length c1) := b2.at_ 1 rfl
    have y2 : W1.cell? ⟨w.heap.size, 2, none⟩ = some (.bool (!up1)) := b2.at_ 2 rfl
    have y3 : W1.cell? ⟨w.heap.size, 3, none⟩ = some (.int .i64 (left1 : Int)) := b2.at_ 3 rfl
    have y4 : W1.cell? ⟨w.heap.size, 4, none⟩ = some (.int .i64 keep1) := b2.at_ 4 rfl
    go_wp2_with fail
    refine HC.out.mono ?_
    clear HC
    rintro e w2 ⟨A2, c2, rfl, hf, o1⟩
    have o := o.tr o1
    have b2 := b2.old o1
    have b4 := b4.old o1
    clear o1 y0 y1 y2 y3 y4 HFL1
    obtain ⟨⟨cap2, F2, up2, left2, keep2⟩, E2⟩ := R2
    simp only at hf HG2
    have y0 : w2.cell? ⟨w.heap.size, 0, none⟩ = some (.int .i64 (cap1 : Int)) := b2.at_ 0 rfl
    have y1 : w2.cell? ⟨w.heap.size, 1, none⟩ = some (.slice A1 F1.length c1) := b2.at_ 1 rfl
    have y2 : w2.cell? ⟨w.heap.size, 2, none⟩ = some (.bool (!up1)) := b2.at_ 2 rfl
    have y3 : w2.cell? ⟨w.heap.size, 3, none⟩ = some (.int .i64 (left1 : Int)) := b2.at_ 3 rfl
    have y4 : w2.cell? ⟨w.heap.size, 4, none⟩ = some (.int .i64 keep1) := b2.at_ 4 rfl
    have yf0 := b2.fr 0
    have yf1 := b2.fr 1
    have yf2 := b2.fr 2
    have yf3 := b2.fr 3
    have yf4 := b2.fr 4
    have HH := Lib.hid (show _ ∧ _ ∧ _ ∧ _ from ⟨(((((o.st (p := ⟨w.heap.size, 0, none⟩) (Nat.le_refl _) (.int .i64 (cap2 : Int))).st (p := ⟨w.heap.size, 1, none⟩) (Nat.le_refl _) (.slice A2 F2.length c2)).st (p := ⟨w.heap.size, 2, none⟩) (Nat.le_refl _) (.bool (!up2))).st (p := ⟨w.heap.size, 3, none⟩) (Nat.le_refl _) (.int .i64 (left2 : Int))).st (p := ⟨w.heap.size, 4, none⟩) (Nat.le_refl _) (.int .i64 keep2)), (bk5 b2 (.int .i64 (cap2 : Int)) (.slice A2 F2.length c2) (.bool (!up2)) (.int .i64 (left2 : Int)) (.int .i64 keep2)), bfar5 b4 hn10 (.int .i64 (cap2 : Int)) (.slice A2 F2.length c2) (.bool (!up2)) (.int .i64 (left2 : Int)) (.int .i64 keep2), hf.far5 b2 (by decide) (.int .i64 (cap2 : Int)) (.slice A2 F2.length c2) (.bool (!up2)) (.int .i64 (left2 : Int)) (.int .i64 keep2)⟩)
    clear o b2 b4 hf
    go_upto_region 6 with (fail)
    obtain ⟨o, b2, b4, hf⟩ := HH.out
    clear HH y0 y1 y2 y3 y4 yf0 yf1 yf2 yf3 yf4
    generalize (((((w2.setCell ⟨w.heap.size, 0, none⟩ (.int .i64 (cap2 : Int))).setCell ⟨w.heap.size, 1, none⟩ (.slice A2 F2.length c2)).setCell ⟨w.heap.size, 2, none⟩ (.bool (!up2))).setCell ⟨w.heap.size, 3, none⟩ (.int .i64 (left2 : Int))).setCell ⟨w.heap.size, 4, none⟩ (.int .i64 keep2)) = W2 at *
    have HFL2 := Lib.hid hf
    clear hf
    by_cases he : E2 ≠ 0
    · have HX := Lib.hid (show R = (⟨cap2, F2, up2, left2, keep2⟩, E2) by rw [HR'.out, ← HR2.out, rthen_no he, rthen_no he, rthen_no he])
      have hb : (E2 == 0) = false := by simpa using he
      clear he HR' HR2
      have y0 : W2.cell? ⟨w.heap.size, 0, none⟩ = some (.int .i64 (cap2 : Int)) := b2.at_ 0 rfl
      have y1 : W2.cell? ⟨w.heap.size, 1, none⟩ = some (.slice A2 F2.length c2) := b2.at_ 1 rfl
      have y2 : W2.cell? ⟨w.heap.size, 2, none⟩ = some (.bool (!up2)) := b2.at_ 2 rfl
      have y3 : W2.cell? ⟨w.heap.size, 3, none⟩ = some (.int .i64 (left2 : Int)) := b2.at_ 3 rfl
      have y4 : W2.cell? ⟨w.heap.size, 4, none⟩ = some (.int .i64 keep2) := b2.at_ 4 rfl
      have d0 : W2.cell? ⟨w.heap.size + 1, 0, none⟩ = some (.int .i64 0) := b4.at_ 0 rfl
      have d1 : W2.cell? ⟨w.heap.size + 1, 1, none⟩ = some (.slice none 0 0) := b4.at_ 1 rfl
      have d2 : W2.cell? ⟨w.heap.size + 1, 2, none⟩ = some (.bool false) := b4.at_ 2 rfl
      have d3 : W2.cell? ⟨w.heap.size + 1, 3, none⟩ = some (.int .i64 0) := b4.at_ 3 rfl
      have d4 : W2.cell? ⟨w.heap.size + 1, 4, none⟩ = some (.int .i64 0) := b4.at_ 4 rfl
      have df0 := b4.fr 0
      have df1 := b4.fr 1
      have df2 := b4.fr 2
      have df3 := b4.fr 3
      have df4 := b4.fr 4
      have oF := Lib.hid (((((o.st (p := ⟨w.heap.size + 1, 0, none⟩) (Nat.le_add_right _ _) (.int .i64 (cap2 : Int))).st (p := ⟨w.heap.size + 1, 1, none⟩) (Nat.le_add_right _ _) (.slice A2 F2.length c2)).st (p := ⟨w.heap.size + 1, 2, none⟩) (Nat.le_add_right _ _) (.bool (!up2))).st (p := ⟨w.heap.size + 1, 3, none⟩) (Nat.le_add_right _ _) (.int .i64 (left2 : Int))).st (p := ⟨w.heap.size + 1, 4, none⟩) (Nat.le_add_right _ _) (.int .i64 keep2))
      have bF := Lib.hid (bk5 b4 (.int .i64 (cap2 : Int)) (.slice A2 F2.length c2) (.bool (!up2)) (.int .i64 (left2 : Int)) (.int .i64 keep2))
      have HFB := Lib.hid (HFL2.out.far5 b4 (by decide) (.int .i64 (cap2 : Int)) (.slice A2 F2.length c2) (.bool (!up2)) (.int .i64 (left2 : Int)) (.int .i64 keep2))
      clear o b4 b2
      go_wp2
      have h1 := oF.out
      have h2 := bF.out
      have h3 := HFB.out
      clear oF bF HFB
      generalize (((((W2.setCell ⟨w.heap.size + 1, 0, none⟩ (.int .i64 (cap2 : Int))).setCell ⟨w.heap.size + 1, 1, none⟩ (.slice A2 F2.length c2)).setCell ⟨w.heap.size + 1, 2, none⟩ (.bool (!up2))).setCell ⟨w.heap.size + 1, 3, none⟩ (.int .i64 (left2 : Int))).setCell ⟨w.heap.size + 1, 4, none⟩ (.int .i64 keep2)) = WF at *
      have z0 : WF.cell? ⟨w.heap.size + 1, 0, none⟩ = some (.int .i64 (cap2 : Int)) := h2.at_ 0 rfl
      have z1 : WF.cell? ⟨w.heap.size + 1, 1, none⟩ = some (.slice A2 F2.length c2) := h2.at_ 1 rfl
      have z2 : WF.cell? ⟨w.heap.size + 1, 2, none⟩ = some (.bool (!up2)) := h2.at_ 2 rfl
      have z3 : WF.cell? ⟨w.heap.size + 1, 3, none⟩ = some (.int .i64 (left2 : Int)) := h2.at_ 3 rfl
      have z4 : WF.cell? ⟨w.heap.size + 1, 4, none⟩ = some (.int .i64 keep2) := h2.at_ 4 rfl
      refine bodyPost_ret (v := .tuple #[Rv (.slice A2 F2.length c2) ⟨cap2, F2, up2, left2, keep2⟩, .int .i64 E2]) (by simp [results, Tryd.results34, go_sem, z0, z1, z2, z3, z4]) rfl ?_
      rw [HX.out]
      exact ⟨_, _, rfl, h3, h1⟩
    obtain rfl : E2 = 0 := by simpa using he
    clear he
    have hq := HR'.out
    rw [← HR2.out, rthen_yes] at hq
    have HR' := Lib.hid hq
    clear hq HR2
    obtain ⟨R3, hR3⟩ : ∃ R, R = rappend ⟨cap2, F2, up2, left2, keep2⟩ (side x) s := ⟨_, rfl⟩
    have HC := rappend_any A2 c2 ⟨cap2, F2, up2, left2, keep2⟩ (side x) s HG2.out.fin HG2.out.left HG2.out.two.nd HG2.out.cap hs W2 HFL2.out
    rw [← hR3] at HC
    have HC := Lib.hid HC
    have HG3 := Lib.hid (show Good x R3.1 by rw [hR3]; exact good_append HG2.out (side x) s)
    have HR3 := Lib.hid hR3
    clear hR3
    have y0 : W2.cell? ⟨w.heap.size, 0, none⟩ = some (.int .i64 (cap2 : Int)) := b2.at_ 0 rfl
    have y1 : W2.cell? ⟨w.heap.size, 1, none⟩ = some (.slice A2 F2.length c2) := b2.at_ 1 rfl
    have y2 : W2.cell? ⟨w.heap.size, 2, none⟩ = some (.bool (!up2)) := b2.at_ 2 rfl
    have y3 : W2.cell? ⟨w.heap.size, 3, none⟩ = some (.int .i64 (left2 : Int)) := b2.at_ 3 rfl
    have y4 : W2.cell? ⟨w.heap.size, 4, none⟩ = some (.int .i64 keep2) := b2.at_ 4 rfl
    go_wp2_with fail
    refine HC.out.mono ?_
    clear HC
    rintro e w3 ⟨A3, c3, rfl, hf, o1⟩
    have o := o.tr o1
    have b2 := b2.old o1
    have b4 := b4.old o1
    clear o1 y0 y1 y2 y3 y4 HFL2
    obtain ⟨⟨cap3, F3, up3, left3, keep3⟩, E3⟩ := R3
    simp only at hf HG3
    have y0 : w3.cell? ⟨w.heap.size, 0, none⟩ = some (.int .i64 (cap2 : Int)) := b2.at_ 0 rfl
    have y1 : w3.cell? ⟨w.heap.size, 1, none⟩ = some (.slice A2 F2.length c2) := b2.at_ 1 rfl
    have y2 : w3.cell? ⟨w.heap.size, 2, none⟩ = some (.bool (!up2)) := b2.at_ 2 rfl
    have y3 : w3.cell? ⟨w.heap.size, 3, none⟩ = some (.int .i64 (left2 : Int)) := b2.at_ 3 rfl
    have y4 : w3.cell? ⟨w.heap.size, 4, none⟩ = some (.int .i64 keep2) := b2.at_ 4 rfl
    have yf0 := b2.fr 0
    have yf1 := b2.fr 1
    have yf2 := b2.fr 2
    have yf3 := b2.fr 3
    have yf4 := b2.fr 4
    have HH := Lib.hid (show _ ∧ _ ∧ _ ∧ _ from ⟨(((((o.st (p := ⟨w.heap.size, 0, none⟩) (Nat.le_refl _) (.int .i64 (cap3 : Int))).st (p := ⟨w.heap.size, 1, none⟩) (Nat.le_refl _) (.slice A3 F3.length c3)).st (p := ⟨w.heap.size, 2, none⟩) (Nat.le_refl _) (.bool (!up3))).st (p := ⟨w.heap.size, 3, none⟩) (Nat.le_refl _) (.int .i64 (left3 : Int))).st (p := ⟨w.heap.size, 4, none⟩) (Nat.le_refl _) (.int .i64 keep3)), (bk5 b2 (.int .i64 (cap3 : Int)) (.slice A3 F3.length c3) (.bool (!up3)) (.int .i64 (left3 : Int)) (.int .i64 keep3)), bfar5 b4 hn10 (.int .i64 (cap3 : Int)) (.slice A3 F3.length c3) (.bool (!up3)) (.int .i64 (left3 : Int)) (.int .i64 keep3), hf.far5 b2 (by decide) (.int .i64 (cap3 : Int)) (.slice A3 F3.length c3) (.bool (!up3)) (.int .i64 (left3 : Int)) (.int .i64 keep3)⟩)
    clear o b2 b4 hf
    go_upto_region 8 with (fail)
    obtain ⟨o, b2, b4, hf⟩ := HH.out
    clear HH y0 y1 y2 y3 y4 yf0 yf1 yf2 yf3 yf4
    generalize (((((w3.setCell ⟨w.heap.size, 0, none⟩ (.int .i64 (cap3 : Int))).setCell ⟨w.heap.size, 1, none⟩ (.slice A3 F3.length c3)).setCell ⟨w.heap.size, 2, none⟩ (.bool (!up3))).setCell ⟨w.heap.size, 3, none⟩ (.int .i64 (left3 : Int))).setCell ⟨w.heap.size, 4, none⟩ (.int .i64 keep3)) = W3 at *
    have HFL3 := Lib.hid hf
    clear hf
    by_cases he : E3 ≠ 0
    · have HX := Lib.hid (show R = (⟨cap3, F3, up3, left3, keep3⟩, E3) by rw [HR'.out, ← HR3.out, rthen_no he, rthen_no he])
      have hb : (E3 == 0) = false := by simpa using he
      clear he HR' HR3
      have y0 : W3.cell? ⟨w.heap.size, 0, none⟩ = some (.int .i64 (cap3 : Int)) := b2.at_ 0 rfl
      have y1 : W3.cell? ⟨w.heap.size, 1, none⟩ = some (.slice A3 F3.length c3) := b2.at_ 1 rfl
      have y2 : W3.cell? ⟨w.heap.size, 2, none⟩ = some (.bool (!up3)) := b2.at_ 2 rfl
      have y3 : W3.cell? ⟨w.heap.size, 3, none⟩ = some (.int .i64 (left3 : Int)) := b2.at_ 3 rfl
      have y4 : W3.cell? ⟨w.heap.size, 4, none⟩ = some (.int .i64 keep3) := b2.at_ 4 rfl
      have d0 : W3.cell? ⟨w.heap.size + 1, 0, none⟩ = some (.int .i64 0) := b4.at_ 0 rfl
      have d1 : W3.cell? ⟨w.heap.size + 1, 1, none⟩ = some (.slice none 0 0) := b4.at_ 1 rfl
      have d2 : W3.cell? ⟨w.heap.size + 1, 2, none⟩ = some (.bool false) := b4.at_ 2 rfl
      have d3 : W3.cell? ⟨w.heap.size + 1, 3, none⟩ = some (.int .i64 0) := b4.at_ 3 rfl
      have d4 : W3.cell? ⟨w.heap.size + 1, 4, none⟩ = some (.int .i64 0) := b4.at_ 4 rfl
      have df0 := b4.fr 0
      have df1 := b4.fr 1
      have df2 := b4.fr 2
      have df3 := b4.fr 3
      have df4 := b4.fr 4
      have oF := Lib.hid (((((o.st (p := ⟨w.heap.size + 1, 0, none⟩) (Nat.le_add_right _ _) (.int .i64 (cap3 : Int))).st (p := ⟨w.heap.size + 1, 1, none⟩) (Nat.le_add_right _ _) (.slice A3 F3.length c3)).st (p := ⟨w.heap.size + 1, 2, none⟩) (Nat.le_add_right _ _) (.bool (!up3))).st (p := ⟨w.heap.size + 1, 3, none⟩) (Nat.le_add_right _ _) (.int .i64 (left3 : Int))).st (p := ⟨w.heap.size + 1, 4, none⟩) (Nat.le_add_right _ _) (.int .i64 keep3))
      have bF := Lib.hid (bk5 b4 (.int .i64 (cap3 : Int)) (.slice A3 F3.length c3) (.bool (!up3)) (.int .i64 (left3 : Int)) (.int .i64 keep3))
      have HFB := Lib.hid (HFL3.out.far5 b4 (by decide) (.int .i64 (cap3 : Int)) (.slice A3 F3.length c3) (.bool (!up3)) (.int .i64 (left3 : Int)) (.int .i64 keep3))
      clear o b4 b2
      go_wp2
      have h1 := oF.out
      have h2 := bF.out
      have h3 := HFB.out
      clear oF bF HFB
      generalize (((((W3.setCell ⟨w.heap.size + 1, 0, none⟩ (.int .i64 (cap3 : Int))).setCell ⟨w.heap.size + 1, 1, none⟩ (.slice A3 F3.length c3)).setCell ⟨w.heap.size + 1, 2, none⟩ (.bool (!up3))).setCell ⟨w.heap.size + 1, 3, none⟩ (.int .i64 (left3 : Int))).setCell ⟨w.heap.size + 1, 4, none⟩ (.int .i64 keep3)) = WF at *
      have z0 : WF.cell? ⟨w.heap.size + 1, 0, none⟩ = some (.int .i64 (cap3 : Int)) := h2.at_ 0 rfl
      have z1 : WF.cell? ⟨w.heap.size + 1, 1, none⟩ = some (.slice A3 F3.length c3) := h2.at_ 1 rfl
      have z2 : WF.cell? ⟨w.heap.size + 1, 2, none⟩ = some (.bool (!up3)) := h2.at_ 2 rfl
      have z3 : WF.cell? ⟨w.heap.size + 1, 3, none⟩ = some (.int .i64 (left3 : Int)) := h2.at_ 3 rfl
      have z4 : WF.cell? ⟨w.heap.size + 1, 4, none⟩ = some (.int .i64 keep3) := h2.at_ 4 rfl
      refine bodyPost_ret (v := .tuple #[Rv (.slice A3 F3.length c3) ⟨cap3, F3, up3, left3, keep3⟩, .int .i64 E3]) (by simp [results, Tryd.results34, go_sem, z0, z1, z2, z3, z4]) rfl ?_
      rw [HX.out]
      exact ⟨_, _, rfl, h3, h1⟩
    obtain rfl : E3 = 0 := by simpa using he
    clear he
    have hq := HR'.out
    rw [← HR3.out, rthen_yes] at hq
    have HR' := Lib.hid hq
    clear hq HR3
    obtain ⟨R4, hR4⟩ : ∃ R, R = rsync ⟨cap3, F3, up3, left3, keep3⟩ (side x) := ⟨_, rfl⟩
    have HC := rsync_any A3 c3 ⟨cap3, F3, up3, left3, keep3⟩ (side x) HG3.out.fin HG3.out.left HG3.out.two.nd W3 HFL3.out
    rw [← hR4] at HC
    have HC := Lib.hid HC
    have HG4 := Lib.hid (show Good x R4.1 by rw [hR4]; exact good_sync HG3.out (side x))
    have HR4 := Lib.hid hR4
    clear hR4
    have y0 : W3.cell? ⟨w.heap.size, 0, none⟩ = some (.int .i64 (cap3 : Int)) := b2.at_ 0 rfl
    have y1 : W3.cell? ⟨w.heap.size, 1, none⟩ = some (.slice A3 F3.length c3) := b2.at_ 1 rfl
    have y2 : W3.cell? ⟨w.heap.size, 2, none⟩ = some (.bool (!up3)) := b2.at_ 2 rfl
    have y3 : W3.cell? ⟨w.heap.size, 3, none⟩ = some (.int .i64 (left3 : Int)) := b2.at_ 3 rfl
    have y4 : W3.cell? ⟨w.heap.size, 4, none⟩ = some (.int .i64 keep3) := b2.at_ 4 rfl
    go_wp2_with fail
    refine HC.out.mono ?_
    clear HC
    rintro e w4 ⟨A4, c4, rfl, hf, o1⟩
    have o := o.tr o1
    have b2 := b2.old o1
    have b4 := b4.old o1
    clear o1 y0 y1 y2 y3 y4 HFL3
    obtain ⟨⟨cap4, F4, up4, left4, keep4⟩, E4⟩ := R4
    simp only at hf HG4
    have y0 : w4.cell? ⟨w.heap.size, 0, none⟩ = some (.int .i64 (cap3 : Int)) := b2.at_ 0 rfl
    have y1 : w4.cell? ⟨w.heap.size, 1, none⟩ = some (.slice A3 F3.length c3) := b2.at_ 1 rfl
    have y2 : w4.cell? ⟨w.heap.size, 2, none⟩ = some (.bool (!up3)) := b2.at_ 2 rfl
    have y3 : w4.cell? ⟨w.heap.size, 3, none⟩ = some (.int .i64 (left3 : Int)) := b2.at_ 3 rfl
    have y4 : w4.cell? ⟨w.heap.size, 4, none⟩ = some (.int .i64 keep3) := b2.at_ 4 rfl
    have yf0 := b2.fr 0
    have yf1 := b2.fr 1
    have yf2 := b2.fr 2
    have yf3 := b2.fr 3
    have yf4 := b2.fr 4
    have HH := Lib.hid (show _ ∧ _ ∧ _ ∧ _ from ⟨(((((o.st (p := ⟨w.heap.size, 0, none⟩) (Nat.le_refl _) (.int .i64 (cap4 : Int))).st (p := ⟨w.heap.size, 1, none⟩) (Nat.le_refl _) (.slice A4 F4.length c4)).st (p := ⟨w.heap.size, 2, none⟩) (Nat.le_refl _) (.bool (!up4))).st (p := ⟨w.heap.size, 3, none⟩) (Nat.le_refl _) (.int .i64 (left4 : Int))).st (p := ⟨w.heap.size, 4, none⟩) (Nat.le_refl _) (.int .i64 keep4)), (bk5 b2 (.int .i64 (cap4 : Int)) (.slice A4 F4.length c4) (.bool (!up4)) (.int .i64 (left4 : Int)) (.int .i64 keep4)), bfar5 b4 hn10 (.int .i64 (cap4 : Int)) (.slice A4 F4.length c4) (.bool (!up4)) (.int .i64 (left4 : Int)) (.int .i64 keep4), hf.far5 b2 (by decide) (.int .i64 (cap4 : Int)) (.slice A4 F4.length c4) (.bool (!up4)) (.int .i64 (left4 : Int)) (.int .i64 keep4)⟩)
    clear o b2 b4 hf
    go_upto_region 10 with (fail)
    obtain ⟨o, b2, b4, hf⟩ := HH.out
    clear HH y0 y1 y2 y3 y4 yf0 yf1 yf2 yf3 yf4
    generalize (((((w4.setCell ⟨w.heap.size, 0, none⟩ (.int .i64 (cap4 : Int))).setCell ⟨w.heap.size, 1, none⟩ (.slice A4 F4.length c4)).setCell ⟨w.heap.size, 2, none⟩ (.bool (!up4))).setCell ⟨w.heap.size, 3, none⟩ (.int .i64 (left4 : Int))).setCell ⟨w.heap.size, 4, none⟩ (.int .i64 keep4)) = W4 at *
    have HFL4 := Lib.hid hf
    clear hf
    by_cases he : E4 ≠ 0
    · have HX := Lib.hid (show R = (⟨cap4, F4, up4, left4, keep4⟩, E4) by rw [HR'.out, ← HR4.out, rthen_no he])
      have hb : (E4 == 0) = false := by simpa using he
      clear he HR' HR4
      have y0 : W4.cell? ⟨w.heap.size, 0, none⟩ = some (.int .i64 (cap4 : Int)) := b2.at_ 0 rfl
      have y1 : W4.cell? ⟨w.heap.size, 1, none⟩ = some (.slice A4 F4.length c4) := b2.at_ 1 rfl
      have y2 : W4.cell? ⟨w.heap.size, 2, none⟩ = some (.bool (!up4)) := b2.at_ 2 rfl
      have y3 : W4.cell? ⟨w.heap.size, 3, none⟩ = some (.int .i64 (left4 : Int)) := b2.at_ 3 rfl
      have y4 : W4.cell? ⟨w.heap.size, 4, none⟩ = some (.int .i64 keep4) := b2.at_ 4 rfl
      have d0 : W4.cell? ⟨w.heap.size + 1, 0, none⟩ = some (.int .i64 0) := b4.at_ 0 rfl
      have d1 : W4.cell? ⟨w.heap.size + 1, 1, none⟩ = some (.slice none 0 0) := b4.at_ 1 rfl
      have d2 : W4.cell? ⟨w.heap.size + 1, 2, none⟩ = some (.bool false) := b4.at_ 2 rfl
      have d3 : W4.cell? ⟨w.heap.size + 1, 3, none⟩ = some (.int .i64 0) := b4.at_ 3 rfl
      have d4 : W4.cell? ⟨w.heap.size + 1, 4, none⟩ = some (.int .i64 0) := b4.at_ 4 rfl
      have df0 := b4.fr 0
      have df1 := b4.fr 1
      have df2 := b4.fr 2
      have df3 := b4.fr 3
      have df4 := b4.fr 4
      have oF := Lib.hid (((((o.st (p := ⟨w.heap.size + 1, 0, none⟩) (Nat.le_add_right _ _) (.int .i64 (cap4 : Int))).st (p := ⟨w.heap.size + 1, 1, none⟩) (Nat.le_add_right _ _) (.slice A4 F4.length c4)).st (p := ⟨w.heap.size + 1, 2, none⟩) (Nat.le_add_right _ _) (.bool (!up4))).st (p := ⟨w.heap.size + 1, 3, none⟩) (Nat.le_add_right _ _) (.int .i64 (left4 : Int))).st (p := ⟨w.heap.size + 1, 4, none⟩) (Nat.le_add_right _ _) (.int .i64 keep4))
      have bF := Lib.hid (bk5 b4 (.int .i64 (cap4 : Int)) (.slice A4 F4.length c4) (.bool (!up4)) (.int .i64 (left4 : Int)) (.int .i64 keep4))
      have HFB := Lib.hid (HFL4.out.far5 b4 (by decide) (.int .i64 (cap4 : Int)) (.slice A4 F4.length c4) (.bool (!up4)) (.int .i64 (left4 : Int)) (.int .i64 keep4))
      clear o b4 b2
      go_wp2
      have h1 := oF.out
      have h2 := bF.out
      have h3 := HFB.out
      clear oF bF HFB
      generalize (((((W4.setCell ⟨w.heap.size + 1, 0, none⟩ (.int .i64 (cap4 : Int))).setCell ⟨w.heap.size + 1, 1, none⟩ (.slice A4 F4.length c4)).setCell ⟨w.heap.size + 1, 2, none⟩ (.bool (!up4))).setCell ⟨w.heap.size + 1, 3, none⟩ (.int .i64 (left4 : Int))).setCell ⟨w.heap.size + 1, 4, none⟩ (.int .i64 keep4)) = WF at *
      have z0 : WF.cell? ⟨w.heap.size + 1, 0, none⟩ = some (.int .i64 (cap4 : Int)) := h2.at_ 0 rfl
      have z1 : WF.cell? ⟨w.heap.size + 1, 1, none⟩ = some (.slice A4 F4.length c4) := h2.at_ 1 rfl
      have z2 : WF.cell? ⟨w.heap.size + 1, 2, none⟩ = some (.bool (!up4)) := h2.at_ 2 rfl
      have z3 : WF.cell? ⟨w.heap.size + 1, 3, none⟩ = some (.int .i64 (left4 : Int)) := h2.at_ 3 rfl
      have z4 : WF.cell? ⟨w.heap.size + 1, 4, none⟩ = some (.int .i64 keep4) := h2.at_ 4 rfl
      refine bodyPost_ret (v := .tuple #[Rv (.slice A4 F4.length c4) ⟨cap4, F4, up4, left4, keep4⟩, .int .i64 E4]) (by simp [results, Tryd.results34, go_sem, z0, z1, z2, z3, z4]) rfl ?_
      rw [HX.out]
      exact ⟨_, _, rfl, h3, h1⟩
    obtain rfl : E4 = 0 := by simpa using he
    clear he
    have hq := HR'.out
    rw [← HR4.out, rthen_yes] at hq
    have HR' := Lib.hid hq
    clear hq HR4
    obtain ⟨R5, hR5⟩ : ∃ R, R = rrename ⟨cap4, F4, up4, left4, keep4⟩ (side x) x := ⟨_, rfl⟩
    have HC := rrename_any A4 c4 ⟨cap4, F4, up4, left4, keep4⟩ (side x) x HG4.out.fin HG4.out.left (by rw [del_both HG4.out.two]; intro g hg; cases hg) (fin_move HG4.out) W4 HFL4.out
    rw [← hR5] at HC
    have HC := Lib.hid HC
    have HG5 := Lib.hid (show Good x R5.1 by rw [hR5]; exact good_rename HG4.out)
    have HR5 := Lib.hid hR5
    clear hR5
    have y0 : W4.cell? ⟨w.heap.size, 0, none⟩ = some (.int .i64 (cap4 : Int)) := b2.at_ 0 rfl
    have y1 : W4.cell? ⟨w.heap.size, 1, none⟩ = some (.slice A4 F4.length c4) := b2.at_ 1 rfl
    have y2 : W4.cell? ⟨w.heap.size, 2, none⟩ = some (.bool (!up4)) := b2.at_ 2 rfl
    have y3 : W4.cell? ⟨w.heap.size, 3, none⟩ = some (.int .i64 (left4 : Int)) := b2.at_ 3 rfl
    have y4 : W4.cell? ⟨w.heap.size, 4, none⟩ = some (.int .i64 keep4) := b2.at_ 4 rfl
    go_wp2_with fail
    refine HC.out.mono ?_
    clear HC
    rintro e w5 ⟨A5, c5, rfl, hf, o1⟩
    have o := o.tr o1
    have b2 := b2.old o1
    have b4 := b4.old o1
    clear o1 y0 y1 y2 y3 y4 HFL4
    obtain ⟨⟨cap5, F5, up5, left5, keep5⟩, E5⟩ := R5
    simp only at hf HG5
    have y0 : w5.cell? ⟨w.heap.size, 0, none⟩ = some (.int .i64 (cap4 : Int)) := b2.at_ 0 rfl
    have y1 : w5.cell? ⟨w.heap.size, 1, none⟩ = some (.slice A4 F4.length c4) := b2.at_ 1 rfl
    have y2 : w5.cell? ⟨w.heap.size, 2, none⟩ = some (.bool (!up4)) := b2.at_ 2 rfl
    have y3 : w5.cell? ⟨w.heap.size, 3, none⟩ = some (.int .i64 (left4 : Int)) := b2.at_ 3 rfl
    have y4 : w5.cell? ⟨w.heap.size, 4, none⟩ = some (.int .i64 keep4) := b2.at_ 4 rfl
    have yf0 := b2.fr 0
    have yf1 := b2.fr 1
    have yf2 := b2.fr 2
    have yf3 := b2.fr 3
    have yf4 := b2.fr 4
    have HH := Lib.hid (show _ ∧ _ ∧ _ ∧ _ from ⟨(((((o.st (p := ⟨w.heap.size, 0, none⟩) (Nat.le_refl _) (.int .i64 (cap5 : Int))).st (p := ⟨w.heap.size, 1, none⟩) (Nat.le_refl _) (.slice A5 F5.length c5)).st (p := ⟨w.heap.size, 2, none⟩) (Nat.le_refl _) (.bool (!up5))).st (p := ⟨w.heap.size, 3, none⟩) (Nat.le_refl _) (.int .i64 (left5 : Int))).st (p := ⟨w.heap.size, 4, none⟩) (Nat.le_refl _) (.int .i64 keep5)), (bk5 b2 (.int .i64 (cap5 : Int)) (.slice A5 F5.length c5) (.bool (!up5)) (.int .i64 (left5 : Int)) (.int .i64 keep5)), bfar5 b4 hn10 (.int .i64 (cap5 : Int)) (.slice A5 F5.length c5) (.bool (!up5)) (.int .i64 (left5 : Int)) (.int .i64 keep5), hf.far5 b2 (by decide) (.int .i64 (cap5 : Int)) (.slice A5 F5.length c5) (.bool (!up5)) (.int .i64 (left5 : Int)) (.int .i64 keep5)⟩)
    clear o b2 b4 hf
    go_upto_region 12 with (fail)
    obtain ⟨o, b2, b4, hf⟩ := HH.out
    clear HH y0 y1 y2 y3 y4 yf0 yf1 yf2 yf3 yf4
    generalize (((((w5.setCell ⟨w.heap.size, 0, none⟩ (.int .i64 (cap5 : Int))).setCell ⟨w.heap.size, 1, none⟩ (.slice A5 F5.length c5)).setCell ⟨w.heap.size, 2, none⟩ (.bool (!up5))).setCell ⟨w.heap.size, 3, none⟩ (.int .i64 (left5 : Int))).setCell ⟨w.heap.size, 4, none⟩ (.int .i64 keep5)) = W5 at *
    have HFL5 := Lib.hid hf
    clear hf
    have HX := Lib.hid (show R = (⟨cap5, F5, up5, left5, keep5⟩, E5) by rw [HR'.out, ← HR5.out])
    have y0 : W5.cell? ⟨w.heap.size, 0, none⟩ = some (.int .i64 (cap5 : Int)) := b2.at_ 0 rfl
    have y1 : W5.cell? ⟨w.heap.size, 1, none⟩ = some (.slice A5 F5.length c5) := b2.at_ 1 rfl
    have y2 : W5.cell? ⟨w.heap.size, 2, none⟩ = some (.bool (!up5)) := b2.at_ 2 rfl
    have y3 : W5.cell? ⟨w.heap.size, 3, none⟩ = some (.int .i64 (left5 : Int)) := b2.at_ 3 rfl
    have y4 : W5.cell? ⟨w.heap.size, 4, none⟩ = some (.int .i64 keep5) := b2.at_ 4 rfl
    have d0 : W5.cell? ⟨w.heap.size + 1, 0, none⟩ = some (.int .i64 0) := b4.at_ 0 rfl
    have d1 : W5.cell? ⟨w.heap.size + 1, 1, none⟩ = some (.slice none 0 0) := b4.at_ 1 rfl
    have d2 : W5.cell? ⟨w.heap.size + 1, 2, none⟩ = some (.bool false) := b4.at_ 2 rfl
    have d3 : W5.cell? ⟨w.heap.size + 1, 3, none⟩ = some (.int .i64 0) := b4.at_ 3 rfl
    have d4 : W5.cell? ⟨w.heap.size + 1, 4, none⟩ = some (.int .i64 0) := b4.at_ 4 rfl
    have df0 := b4.fr 0
    have df1 := b4.fr 1
    have df2 := b4.fr 2
    have df3 := b4.fr 3
    have df4 := b4.fr 4
    have oF := Lib.hid (((((o.st (p := ⟨w.heap.size + 1, 0, none⟩) (Nat.le_add_right _ _) (.int .i64 (cap5 : Int))).st (p := ⟨w.heap.size + 1, 1, none⟩) (Nat.le_add_right _ _) (.slice A5 F5.length c5)).st (p := ⟨w.heap.size + 1, 2, none⟩) (Nat.le_add_right _ _) (.bool (!up5))).st (p := ⟨w.heap.size + 1, 3, none⟩) (Nat.le_add_right _ _) (.int .i64 (left5 : Int))).st (p := ⟨w.heap.size + 1, 4, none⟩) (Nat.le_add_right _ _) (.int .i64 keep5))
    have bF := Lib.hid (bk5 b4 (.int .i64 (cap5 : Int)) (.slice A5 F5.length c5) (.bool (!up5)) (.int .i64 (left5 : Int)) (.int .i64 keep5))
    have HFB := Lib.hid (HFL5.out.far5 b4 (by decide) (.int .i64 (cap5 : Int)) (.slice A5 F5.length c5) (.bool (!up5)) (.int .i64 (left5 : Int)) (.int .i64 keep5))
    clear o b4 b2
    go_wp2
    have h1 := oF.out
    have h2 := bF.out
    have h3 := HFB.out
    clear oF bF HFB
    generalize (((((W5.setCell ⟨w.heap.size + 1, 0, none⟩ (.int .i64 (cap5 : Int))).setCell ⟨w.heap.size + 1, 1, none⟩ (.slice A5 F5.length c5)).setCell ⟨w.heap.size + 1, 2, none⟩ (.bool (!up5))).setCell ⟨w.heap.size + 1, 3, none⟩ (.int .i64 (left5 : Int))).setCell ⟨w.heap.size + 1, 4, none⟩ (.int .i64 keep5)) = WF at *
    have z0 : WF.cell? ⟨w.heap.size + 1, 0, none⟩ = some (.int .i64 (cap5 : Int)) := h2.at_ 0 rfl
    have z1 : WF.cell? ⟨w.heap.size + 1, 1, none⟩ = some (.slice A5 F5.length c5) := h2.at_ 1 rfl
    have z2 : WF.cell? ⟨w.heap.size + 1, 2, none⟩ = some (.bool (!up5)) := h2.at_ 2 rfl
    have z3 : WF.cell? ⟨w.heap.size + 1, 3, none⟩ = some (.int .i64 (left5 : Int)) := h2.at_ 3 rfl
    have z4 : WF.cell? ⟨w.heap.size + 1, 4, none⟩ = some (.int .i64 keep5) := h2.at_ 4 rfl
    refine bodyPost_ret (v := .tuple #[Rv (.slice A5 F5.length c5) ⟨cap5, F5, up5, left5, keep5⟩, .int .i64 E5]) (by simp [results, Tryd.results34, go_sem, z0, z1, z2, z3, z4]) rfl ?_
    rw [HX.out]
    exact ⟨_, _, rfl, h3, h1⟩
  · obtain ⟨R2, hR2⟩ : ∃ R, R = rcreate ⟨cap1, F1, up1, left1, keep1⟩ (side x) := ⟨_, rfl⟩
    have HC := rcreate_any A1 c1 ⟨cap1, F1, up1, left1, keep1⟩ (side x) HG1.out.fin HG1.out.left (top_create HG1.out) W1 HFL1.out
    rw [← hR2] at HC
    have HC := Lib.hid HC
    have HG2 := Lib.hid (show Good x R2.1 by rw [hR2]; exact good_create HG1.out)
    have HR2 := Lib.hid hR2
    clear hR2
    have y0 : W1.cell? ⟨w.heap.size, 0, none⟩ = some (.int .i64 (cap1 : Int)) := b2.at_ 0 rfl
    have y1 : W1.cell? ⟨w.heap.size, 1, none⟩ = some (.slice A1 F1.length c1) := b2.at_ 1 rfl
    have y2 : W1.cell? ⟨w.heap.size, 2, none⟩ = some (.bool (!up1)) := b2.at_ 2 rfl
    have y3 : W1.cell? ⟨w.heap.size, 3, none⟩ = some (.int .i64 (left1 : Int)) := b2.at_ 3 rfl
    have y4 : W1.cell? ⟨w.heap.size, 4, none⟩ = some (.int .i64 keep1) := b2.at_ 4 rfl
    go_wp2_with fail
    refine HC.out.mono ?_
    clear HC
    rintro e w2 ⟨A2, c2, rfl, hf, o1⟩
    have o := o.tr o1
    have b2 := b2.old o1
    have b4 := b4.old o1
    clear o1 y0 y1 y2 y3 y4 HFL1
    obtain ⟨⟨cap2, F2, up2, left2, keep2⟩, E2⟩ := R2
    simp only at hf HG2
    have y0 : w2.cell? ⟨w.heap.size, 0, none⟩ = some (.int .i64 (cap1 : Int)) := b2.at_ 0 rfl
    have y1 : w2.cell? ⟨w.heap.size, 1, none⟩ = some (.slice A1 F1.length c1) := b2.at_ 1 rfl
    have y2 : w2.cell? ⟨w.heap.size, 2, none⟩ = some (.bool (!up1)) := b2.at_ 2 rfl
    have y3 : w2.cell? ⟨w.heap.size, 3, none⟩ = some (.int .i64 (left1 : Int)) := b2.at_ 3 rfl
    have y4 : w2.cell? ⟨w.heap.size, 4, none⟩ = some (.int .i64 keep1) := b2.at_ 4 rfl
    have yf0 := b2.fr 0
    have yf1 := b2.fr 1
    have yf2 := b2.fr 2
    have yf3 := b2.fr 3
    have yf4 := b2.fr 4
    have HH := Lib.hid (show _ ∧ _ ∧ _ ∧ _ from ⟨(((((o.st (p := ⟨w.heap.size, 0, none⟩) (Nat.le_refl _) (.int .i64 (cap2 : Int))).st (p := ⟨w.heap.size, 1, none⟩) (Nat.le_refl _) (.slice A2 F2.length c2)).st (p := ⟨w.heap.size, 2, none⟩) (Nat.le_refl _) (.bool (!up2))).st (p := ⟨w.heap.size, 3, none⟩) (Nat.le_refl _) (.int .i64 (left2 : Int))).st (p := ⟨w.heap.size, 4, none⟩) (Nat.le_refl _) (.int .i64 keep2)), (bk5 b2 (.int .i64 (cap2 : Int)) (.slice A2 F2.length c2) (.bool (!up2)) (.int .i64 (left2 : Int)) (.int .i64 keep2)), bfar5 b4 hn10 (.int .i64 (cap2 : Int)) (.slice A2 F2.length c2) (.bool (!up2)) (.int .i64 (left2 : Int)) (.int .i64 keep2), hf.far5 b2 (by decide) (.int .i64 (cap2 : Int)) (.slice A2 F2.length c2) (.bool (!up2)) (.int .i64 (left2 : Int)) (.int .i64 keep2)⟩)
    clear o b2 b4 hf
    go_upto_region 6 with (fail)
    obtain ⟨o, b2, b4, hf⟩ := HH.out
    clear HH y0 y1 y2 y3 y4 yf0 yf1 yf2 yf3 yf4
    generalize (((((w2.setCell ⟨w.heap.size, 0, none⟩ (.int .i64 (cap2 : Int))).setCell ⟨w.heap.size, 1, none⟩ (.slice A2 F2.length c2)).setCell ⟨w.heap.size, 2, none⟩ (.bool (!up2))).setCell ⟨w.heap.size, 3, none⟩ (.int .i64 (left2 : Int))).setCell ⟨w.heap.size, 4, none⟩ (.int .i64 keep2)) = W2 at *
    have HFL2 := Lib.hid hf
    clear hf
    by_cases he : E2 ≠ 0
    · have HX := Lib.hid (show R = (⟨cap2, F2, up2, left2, keep2⟩, E2) by rw [HR'.out, ← HR2.out, rthen_no he, rthen_no he, rthen_no he])
      have hb : (E2 == 0) = false := by simpa using he
      clear he HR' HR2
      have y0 : W2.cell? ⟨w.heap.size, 0, none⟩ = some (.int .i64 (cap2 : Int)) := b2.at_ 0 rfl
      have y1 : W2.cell? ⟨w.heap.size, 1, none⟩ = some (.slice A2 F2.length c2) := b2.at_ 1 rfl
      have y2 : W2.cell? ⟨w.heap.size, 2, none⟩ = some (.bool (!up2)) := b2.at_ 2 rfl
      have y3 : W2.cell? ⟨w.heap.size, 3, none⟩ = some (.int .i64 (left2 : Int)) := b2.at_ 3 rfl
      have y4 : W2.cell? ⟨w.heap.size, 4, none⟩ = some (.int .i64 keep2) := b2.at_ 4 rfl
      have d0 : W2.cell? ⟨w.heap.size + 1, 0, none⟩ = some (.int .i64 0) := b4.at_ 0 rfl
      have d1 : W2.cell? ⟨w.heap.size + 1, 1, none⟩ = some (.slice none 0 0) := b4.at_ 1 rfl
      have d2 : W2.cell? ⟨w.heap.size + 1, 2, none⟩ = some (.bool false) := b4.at_ 2 rfl
      have d3 : W2.cell? ⟨w.heap.size + 1, 3, none⟩ = some (.int .i64 0) := b4.at_ 3 rfl
      have d4 : W2.cell? ⟨w.heap.size + 1, 4, none⟩ = some (.int .i64 0) := b4.at_ 4 rfl
      have df0 := b4.fr 0
      have df1 := b4.fr 1
      have df2 := b4.fr 2
      have df3 := b4.fr 3
      have df4 := b4.fr 4
      have oF := Lib.hid (((((o.st (p := ⟨w.heap.size + 1, 0, none⟩) (Nat.le_add_right _ _) (.int .i64 (cap2 : Int))).st (p := ⟨w.heap.size + 1, 1, none⟩) (Nat.le_add_right _ _) (.slice A2 F2.length c2)).st (p := ⟨w.heap.size + 1, 2, none⟩) (Nat.le_add_right _ _) (.bool (!up2))).st (p := ⟨w.heap.size + 1, 3, none⟩) (Nat.le_add_right _ _) (.int .i64 (left2 : Int))).st (p := ⟨w.heap.size + 1, 4, none⟩) (Nat.le_add_right _ _) (.int .i64 keep2))
      have bF := Lib.hid (bk5 b4 (.int .i64 (cap2 : Int)) (.slice A2 F2.length c2) (.bool (!up2)) (.int .i64 (left2 : Int)) (.int .i64 keep2))
      have HFB := Lib.hid (HFL2.out.far5 b4 (by decide) (.int .i64 (cap2 : Int)) (.slice A2 F2.length c2) (.bool (!up2)) (.int .i64 (left2 : Int)) (.int .i64 keep2))
      clear o b4 b2
      go_wp2
      have h1 := oF.out
      have h2 := bF.out
      have h3 := HFB.out
      clear oF bF HFB
      generalize (((((W2.setCell ⟨w.heap.size + 1, 0, none⟩ (.int .i64 (cap2 : Int))).setCell ⟨w.heap.size + 1, 1, none⟩ (.slice A2 F2.length c2)).setCell ⟨w.heap.size + 1, 2, none⟩ (.bool (!up2))).setCell ⟨w.heap.size + 1, 3, none⟩ (.int .i64 (left2 : Int))).setCell ⟨w.heap.size + 1, 4, none⟩ (.int .i64 keep2)) = WF at *
      have z0 : WF.cell? ⟨w.heap.size + 1, 0, none⟩ = some (.int .i64 (cap2 : Int)) := h2.at_ 0 rfl
      have z1 : WF.cell? ⟨w.heap.size + 1, 1, none⟩ = some (.slice A2 F2.length c2) := h2.at_ 1 rfl
      have z2 : WF.cell? ⟨w.heap.size + 1, 2, none⟩ = some (.bool (!up2)) := h2.at_ 2 rfl
      have z3 : WF.cell? ⟨w.heap.size + 1, 3, none⟩ = some (.int .i64 (left2 : Int)) := h2.at_ 3 rfl
      have z4 : WF.cell? ⟨w.heap.size + 1, 4, none⟩ = some (.int .i64 keep2) := h2.at_ 4 rfl
      refine bodyPost_ret (v := .tuple #[Rv (.slice A2 F2.length c2) ⟨cap2, F2, up2, left2, keep2⟩, .int .i64 E2]) (by simp [results, Tryd.results34, go_sem, z0, z1, z2, z3, z4]) rfl ?_
      rw [HX.out]
      exact ⟨_, _, rfl, h3, h1⟩
    obtain rfl : E2 = 0 := by simpa using he
    clear he
    have hq := HR'.out
    rw [← HR2.out, rthen_yes] at hq
    have HR' := Lib.hid hq
    clear hq HR2
    obtain ⟨R3, hR3⟩ : ∃ R, R = rappend ⟨cap2, F2, up2, left2, keep2⟩ (side x) s := ⟨_, rfl⟩
    have HC := rappend_any A2 c2 ⟨cap2, F2, up2, left2, keep2⟩ (side x) s HG2.out.fin HG2.out.left HG2.out.two.nd HG2.out.cap hs W2 HFL2.out
    rw [← hR3] at HC
    have HC := Lib.hid HC
    have HG3 := Lib.hid (show Good x R3.1 by rw [hR3]; exact good_append HG2.out (side x) s)
    have HR3 := Lib.hid hR3
    clear hR3
    have y0 : W2.cell? ⟨w.heap.size, 0, none⟩ = some (.int .i64 (cap2 : Int)) := b2.at_ 0 rfl
    have y1 : W2.cell? ⟨w.heap.size, 1, none⟩ = some (.slice A2 F2.length c2) := b2.at_ 1 rfl
    have y2 : W2.cell? ⟨w.heap.size, 2, none⟩ = some (.bool (!up2)) := b2.at_ 2 rfl
    have y3 : W2.cell? ⟨w.heap.size, 3, none⟩ = some (.int .i64 (left2 : Int)) := b2.at_ 3 rfl
    have y4 : W2.cell? ⟨w.heap.size, 4, none⟩ = some (.int .i64 keep2) := b2.at_ 4 rfl
    go_wp2_with fail
    refine HC.out.mono ?_
    clear HC
    rintro e w3 ⟨A3, c3, rfl, hf, o1⟩
    have o := o.tr o1
    have b2 := b2.old o1
    have b4 := b4.old o1
    clear o1 y0 y1 y2 y3 y4 HFL2
    obtain ⟨⟨cap3, F3, up3, left3, keep3⟩, E3⟩ := R3
    simp only at hf HG3
    have y0 : w3.cell? ⟨w.heap.size, 0, none⟩ = some (.int .i64 (cap2 : Int)) := b2.at_ 0 rfl
    have y1 : w3.cell? ⟨w.heap.size, 1, none⟩ = some (.slice A2 F2.length c2) := b2.at_ 1 rfl
    have y2 : w3.cell? ⟨w.heap.size, 2, none⟩ = some (.bool (!up2)) := b2.at_ 2 rfl
    have y3 : w3.cell? ⟨w.heap.size, 3, none⟩ = some (.int .i64 (left2 : Int)) := b2.at_ 3 rfl
    have y4 : w3.cell? ⟨w.heap.size, 4, none⟩ = some (.int .i64 keep2) := b2.at_ 4 rfl
    have yf0 := b2.fr 0
    have yf1 := b2.fr 1
    have yf2 := b2.fr 2
    have yf3 := b2.fr 3
    have yf4 := b2.fr 4
    have HH := Lib.hid (show _ ∧ _ ∧ _ ∧ _ from ⟨(((((o.st (p := ⟨w.heap.size, 0, none⟩) (Nat.le_refl _) (.int .i64 (cap3 : Int))).st (p := ⟨w.heap.size, 1, none⟩) (Nat.le_refl _) (.slice A3 F3.length c3)).st (p := ⟨w.heap.size, 2, none⟩) (Nat.le_refl _) (.bool (!up3))).st (p := ⟨w.heap.size, 3, none⟩) (Nat.le_refl _) (.int .i64 (left3 : Int))).st (p := ⟨w.heap.size, 4, none⟩) (Nat.le_refl _) (.int .i64 keep3)), (bk5 b2 (.int .i64 (cap3 : Int)) (.slice A3 F3.length c3) (.bool (!up3)) (.int .i64 (left3 : Int)) (.int .i64 keep3)), bfar5 b4 hn10 (.int .i64 (cap3 : Int)) (.slice A3 F3.length c3) (.bool (!up3)) (.int .i64 (left3 : Int)) (.int .i64 keep3), hf.far5 b2 (by decide) (.int .i64 (cap3 : Int)) (.slice A3 F3.length c3) (.bool (!up3)) (.int .i64 (left3 : Int)) (.int .i64 keep3)⟩)
    clear o b2 b4 hf
    go_upto_region 8 with (fail)
    obtain ⟨o, b2, b4, hf⟩ := HH.out
    clear HH y0 y1 y2 y3 y4 yf0 yf1 yf2 yf3 yf4
    generalize (((((w3.setCell ⟨w.heap.size, 0, none⟩ (.int .i64 (cap3 : Int))).setCell ⟨w.heap.size, 1, none⟩ (.slice A3 F3.length c3)).setCell ⟨w.heap.size, 2, none⟩ (.bool (!up3))).setCell ⟨w.heap.size, 3, none⟩ (.int .i64 (left3 : Int))).setCell ⟨w.heap.size, 4, none⟩ (.int .i64 keep3)) = W3 at *
    have HFL3 := Lib.hid hf
    clear hf
    by_cases he : E3 ≠ 0
    · have HX := Lib.hid (show R = (⟨cap3, F3, up3, left3, keep3⟩, E3) by rw [HR'.out, ← HR3.out, rthen_no he, rthen_no he])
      have hb : (E3 == 0) = false := by simpa using he
      clear he HR' HR3
      have y0 : W3.cell? ⟨w.heap.size, 0, none⟩ = some (.int .i64 (cap3 : Int)) := b2.at_ 0 rfl
      have y1 : W3.cell? ⟨w.heap.size, 1, none⟩ = some (.slice A3 F3.length c3) := b2.at_ 1 rfl
      have y2 : W3.cell? ⟨w.heap.size, 2, none⟩ = some (.bool (!up3)) := b2.at_ 2 rfl
      have y3 : W3.cell? ⟨w.heap.size, 3, none⟩ = some (.int .i64 (left3 : Int)) := b2.at_ 3 rfl
      have y4 : W3.cell? ⟨w.heap.size, 4, none⟩ = some (.int .i64 keep3) := b2.at_ 4 rfl
      have d0 : W3.cell? ⟨w.heap.size + 1, 0, none⟩ = some (.int .i64 0) := b4.at_ 0 rfl
      have d1 : W3.cell? ⟨w.heap.size + 1, 1, none⟩ = some (.slice none 0 0) := b4.at_ 1 rfl
      have d2 : W3.cell? ⟨w.heap.size + 1, 2, none⟩ = some (.bool false) := b4.at_ 2 rfl
      have d3 : W3.cell? ⟨w.heap.size + 1, 3, none⟩ = some (.int .i64 0) := b4.at_ 3 rfl
      have d4 : W3.cell? ⟨w.heap.size + 1, 4, none⟩ = some (.int .i64 0) := b4.at_ 4 rfl
      have df0 := b4.fr 0
      have df1 := b4.fr 1
      have df2 := b4.fr 2
      have df3 := b4.fr 3
      have df4 := b4.fr 4
      have oF := Lib.hid (((((o.st (p := ⟨w.heap.size + 1, 0, none⟩) (Nat.le_add_right _ _) (.int .i64 (cap3 : Int))).st (p := ⟨w.heap.size + 1, 1, none⟩) (Nat.le_add_right _ _) (.slice A3 F3.length c3)).st (p := ⟨w.heap.size + 1, 2, none⟩) (Nat.le_add_right _ _) (.bool (!up3))).st (p := ⟨w.heap.size + 1, 3, none⟩) (Nat.le_add_right _ _) (.int .i64 (left3 : Int))).st (p := ⟨w.heap.size + 1, 4, none⟩) (Nat.le_add_right _ _) (.int .i64 keep3))
      have bF := Lib.hid (bk5 b4 (.int .i64 (cap3 : Int)) (.slice A3 F3.length c3) (.bool (!up3)) (.int .i64 (left3 : Int)) (.int .i64 keep3))
      have HFB := Lib.hid (HFL3.out.far5 b4 (by decide) (.int .i64 (cap3 : Int)) (.slice A3 F3.length c3) (.bool (!up3)) (.int .i64 (left3 : Int)) (.int .i64 keep3))
      clear o b4 b2
      go_wp2
      have h1 := oF.out
      have h2 := bF.out
      have h3 := HFB.out
      clear oF bF HFB
      generalize (((((W3.setCell ⟨w.heap.size + 1, 0, none⟩ (.int .i64 (cap3 : Int))).setCell ⟨w.heap.size + 1, 1, none⟩ (.slice A3 F3.length c3)).setCell ⟨w.heap.size + 1, 2, none⟩ (.bool (!up3))).setCell ⟨w.heap.size + 1, 3, none⟩ (.int .i64 (left3 : Int))).setCell ⟨w.heap.size + 1, 4, none⟩ (.int .i64 keep3)) = WF at *
      have z0 : WF.cell? ⟨w.heap.size + 1, 0, none⟩ = some (.int .i64 (cap3 : Int)) := h2.at_ 0 rfl
      have z1 : WF.cell? ⟨w.heap.size + 1, 1, none⟩ = some (.slice A3 F3.length c3) := h2.at_ 1 rfl
      have z2 : WF.cell? ⟨w.heap.size + 1, 2, none⟩ = some (.bool (!up3)) := h2.at_ 2 rfl
      have z3 : WF.cell? ⟨w.heap.size + 1, 3, none⟩ = some (.int .i64 (left3 : Int)) := h2.at_ 3 rfl
      have z4 : WF.cell? ⟨w.heap.size + 1, 4, none⟩ = some (.int .i64 keep3) := h2.at_ 4 rfl
      refine bodyPost_ret (v := .tuple #[Rv (.slice A3 F3.length c3) ⟨cap3, F3, up3, left3, keep3⟩, .int .i64 E3]) (by simp [results, Tryd.results34, go_sem, z0, z1, z2, z3, z4]) rfl ?_
      rw [HX.out]
      exact ⟨_, _, rfl, h3, h1⟩
    obtain rfl : E3 = 0 := by simpa using he
    clear he
    have hq := HR'.out
    rw [← HR3.out, rthen_yes] at hq
    have HR' := Lib.hid hq
    clear hq HR3
    obtain ⟨R4, hR4⟩ : ∃ R, R = rsync ⟨cap3, F3, up3, left3, keep3⟩ (side x) := ⟨_, rfl⟩
    have HC := rsync_any A3 c3 ⟨cap3, F3, up3, left3, keep3⟩ (side x) HG3.out.fin HG3.out.left HG3.out.two.nd W3 HFL3.out
    rw [← hR4] at HC
    have HC := Lib.hid HC
    have HG4 := Lib.hid (show Good x R4.1 by rw [hR4]; exact good_sync HG3.out (side x))
    have HR4 := Lib.hid hR4
    clear hR4
    have y0 : W3.cell? ⟨w.heap.size, 0, none⟩ = some (.int .i64 (cap3 : Int)) := b2.at_ 0 rfl
    have y1 : W3.cell? ⟨w.heap.size, 1, none⟩ = some (.slice A3 F3.length c3) := b2.at_ 1 rfl
    have y2 : W3.cell? ⟨w.heap.size, 2, none⟩ = some (.bool (!up3)) := b2.at_ 2 rfl
    have y3 : W3.cell? ⟨w.heap.size, 3, none⟩ = some (.int .i64 (left3 : Int)) := b2.at_ 3 rfl
    have y4 : W3.cell? ⟨w.heap.size, 4, none⟩ = some (.int .i64 keep3) := b2.at_ 4 rfl
    go_wp2_with fail
    refine HC.out.mono ?_
    clear HC
    rintro e w4 ⟨A4, c4, rfl, hf, o1⟩
    have o := o.tr o1
    have b2 := b2.old o1
    have b4 := b4.old o1
    clear o1 y0 y1 y2 y3 y4 HFL3
    obtain ⟨⟨cap4, F4, up4, left4, keep4⟩, E4⟩ := R4
    simp only at hf HG4
    have y0 : w4.cell? ⟨w.heap.size, 0, none⟩ = some (.int .i64 (cap3 : Int)) := b2.at_ 0 rfl
    have y1 : w4.cell? ⟨w.heap.size, 1, none⟩ = some (.slice A3 F3.length c3) := b2.at_ 1 rfl
    have y2 : w4.cell? ⟨w.heap.size, 2, none⟩ = some (.bool (!up3)) := b2.at_ 2 rfl
    have y3 : w4.cell? ⟨w.heap.size, 3, none⟩ = some (.int .i64 (left3 : Int)) := b2.at_ 3 rfl
    have y4 : w4.cell? ⟨w.heap.size, 4, none⟩ = some (.int .i64 keep3) := b2.at_ 4 rfl
    have yf0 := b2.fr 0
    have yf1 := b2.fr 1
    have yf2 := b2.fr 2
    have yf3 := b2.fr 3
    have yf4 := b2.fr 4
    have HH := Lib.hid (show _ ∧ _ ∧ _ ∧ _ from ⟨(((((o.st (p := ⟨w.heap.size, 0, none⟩) (Nat.le_refl _) (.int .i64 (cap4 : Int))).st (p := ⟨w.heap.size, 1, none⟩) (Nat.le_refl _) (.slice A4 F4.length c4)).st (p := ⟨w.heap.size, 2, none⟩) (Nat.le_refl _) (.bool (!up4))).st (p := ⟨w.heap.size, 3, none⟩) (Nat.le_refl _) (.int .i64 (left4 : Int))).st (p := ⟨w.heap.size, 4, none⟩) (Nat.le_refl _) (.int .i64 keep4)), (bk5 b2 (.int .i64 (cap4 : Int)) (.slice A4 F4.length c4) (.bool (!up4)) (.int .i64 (left4 : Int)) (.int .i64 keep4)), bfar5 b4 hn10 (.int .i64 (cap4 : Int)) (.slice A4 F4.length c4) (.bool (!up4)) (.int .i64 (left4 : Int)) (.int .i64 keep4), hf.far5 b2 (by decide) (.int .i64 (cap4 : Int)) (.slice A4 F4.length c4) (.bool (!up4)) (.int .i64 (left4 : Int)) (.int .i64 keep4)⟩)
    clear o b2 b4 hf
    go_upto_region 10 with (fail)
    obtain ⟨o, b2, b4, hf⟩ := HH.out
    clear HH y0 y1 y2 y3 y4 yf0 yf1 yf2 yf3 yf4
    generalize (((((w4.setCell ⟨w.heap.size, 0, none⟩ (.int .i64 (cap4 : Int))).setCell ⟨w.heap.size, 1, none⟩ (.slice A4 F4.length c4)).setCell ⟨w.heap.size, 2, none⟩ (.bool (!up4))).setCell ⟨w.heap.size, 3, none⟩ (.int .i64 (left4 : Int))).setCell ⟨w.heap.size, 4, none⟩ (.int .i64 keep4)) = W4 at *
    have HFL4 := Lib.hid hf
    clear hf
    by_cases he : E4 ≠ 0
    · have HX := Lib.hid (show R = (⟨cap4, F4, up4, left4, keep4⟩, E4) by rw [HR'.out, ← HR4.out, rthen_no he])
      have hb : (E4 == 0) = false := by simpa using he
      clear he HR' HR4
      have y0 : W4.cell? ⟨w.heap.size, 0, none⟩ = some (.int .i64 (cap4 : Int)) := b2.at_ 0 rfl
      have y1 : W4.cell? ⟨w.heap.size, 1, none⟩ = some (.slice A4 F4.length c4) := b2.at_ 1 rfl
      have y2 : W4.cell? ⟨w.heap.size, 2, none⟩ = some (.bool (!up4)) := b2.at_ 2 rfl
      have y3 : W4.cell? ⟨w.heap.size, 3, none⟩ = some (.int .i64 (left4 : Int)) := b2.at_ 3 rfl
      have y4 : W4.cell? ⟨w.heap.size, 4, none⟩ = some (.int .i64 keep4) := b2.at_ 4 rfl
      have d0 : W4.cell? ⟨w.heap.size + 1, 0, none⟩ = some (.int .i64 0) := b4.at_ 0 rfl
      have d1 : W4.cell? ⟨w.heap.size + 1, 1, none⟩ = some (.slice none 0 0) := b4.at_ 1 rfl
      have d2 : W4.cell? ⟨w.heap.size + 1, 2, none⟩ = some (.bool false) := b4.at_ 2 rfl
      have d3 : W4.cell? ⟨w.heap.size + 1, 3, none⟩ = some (.int .i64 0) := b4.at_ 3 rfl
      have d4 : W4.cell? ⟨w.heap.size + 1, 4, none⟩ = some (.int .i64 0) := b4.at_ 4 rfl
      have df0 := b4.fr 0
      have df1 := b4.fr 1
      have df2 := b4.fr 2
      have df3 := b4.fr 3
      have df4 := b4.fr 4
      have oF := Lib.hid (((((o.st (p := ⟨w.heap.size + 1, 0, none⟩) (Nat.le_add_right _ _) (.int .i64 (cap4 : Int))).st (p := ⟨w.heap.size + 1, 1, none⟩) (Nat.le_add_right _ _) (.slice A4 F4.length c4)).st (p := ⟨w.heap.size + 1, 2, none⟩) (Nat.le_add_right _ _) (.bool (!up4))).st (p := ⟨w.heap.size + 1, 3, none⟩) (Nat.le_add_right _ _) (.int .i64 (left4 : Int))).st (p := ⟨w.heap.size + 1, 4, none⟩) (Nat.le_add_right _ _) (.int .i64 keep4))
      have bF := Lib.hid (bk5 b4 (.int .i64 (cap4 : Int)) (.slice A4 F4.length c4) (.bool (!up4)) (.int .i64 (left4 : Int)) (.int .i64 keep4))
      have HFB := Lib.hid (HFL4.out.far5 b4 (by decide) (.int .i64 (cap4 : Int)) (.slice A4 F4.length c4) (.bool (!up4)) (.int .i64 (left4 : Int)) (.int .i64 keep4))
      clear o b4 b2
      go_wp2
      have h1 := oF.out
      have h2 := bF.out
      have h3 := HFB.out
      clear oF bF HFB
      generalize (((((W4.setCell ⟨w.heap.size + 1, 0, none⟩ (.int .i64 (cap4 : Int))).setCell ⟨w.heap.size + 1, 1, none⟩ (.slice A4 F4.length c4)).setCell ⟨w.heap.size + 1, 2, none⟩ (.bool (!up4))).setCell ⟨w.heap.size + 1, 3, none⟩ (.int .i64 (left4 : Int))).setCell ⟨w.heap.size + 1, 4, none⟩ (.int .i64 keep4)) = WF at *
      have z0 : WF.cell? ⟨w.heap.size + 1, 0, none⟩ = some (.int .i64 (cap4 : Int)) := h2.at_ 0 rfl
      have z1 : WF.cell? ⟨w.heap.size + 1, 1, none⟩ = some (.slice A4 F4.length c4) := h2.at_ 1 rfl
      have z2 : WF.cell? ⟨w.heap.size + 1, 2, none⟩ = some (.bool (!up4)) := h2.at_ 2 rfl
      have z3 : WF.cell? ⟨w.heap.size + 1, 3, none⟩ = some (.int .i64 (left4 : Int)) := h2.at_ 3 rfl
      have z4 : WF.cell? ⟨w.heap.size + 1, 4, none⟩ = some (.int .i64 keep4) := h2.at_ 4 rfl
      refine bodyPost_ret (v := .tuple #[Rv (.slice A4 F4.length c4) ⟨cap4, F4, up4, left4, keep4⟩, .int .i64 E4]) (by simp [results, Tryd.results34, go_sem, z0, z1, z2, z3, z4]) rfl ?_
      rw [HX.out]
      exact ⟨_, _, rfl, h3, h1⟩
    obtain rfl : E4 = 0 := by simpa using he
    clear he
    have hq := HR'.out
    rw [← HR4.out, rthen_yes] at hq
    have HR' := Lib.hid hq
    clear hq HR4
    obtain ⟨R5, hR5⟩ : ∃ R, R = rrename ⟨cap4, F4, up4, left4, keep4⟩ (side x) x := ⟨_, rfl⟩
    have HC := rrename_any A4 c4 ⟨cap4, F4, up4, left4, keep4⟩ (side x) x HG4.out.fin HG4.out.left (by rw [del_both HG4.out.two]; intro g hg; cases hg) (fin_move HG4.out) W4 HFL4.out
    rw [← hR5] at HC
    have HC := Lib.hid HC
    have HG5 := Lib.hid (show Good x R5.1 by rw [hR5]; exact good_rename HG4.out)
    have HR5 := Lib.hid hR5
    clear hR5
    have y0 : W4.cell? ⟨w.heap.size, 0, none⟩ = some (.int .i64 (cap4 : Int)) := b2.at_ 0 rfl
    have y1 : W4.cell? ⟨w.heap.size, 1, none⟩ = some (.slice A4 F4.length c4) := b2.at_ 1 rfl
    have y2 : W4.cell? ⟨w.heap.size, 2, none⟩ = some (.bool (!up4)) := b2.at_ 2 rfl
    have y3 : W4.cell? ⟨w.heap.size, 3, none⟩ = some (.int .i64 (left4 : Int)) := b2.at_ 3 rfl
    have y4 : W4.cell? ⟨w.heap.size, 4, none⟩ = some (.int .i64 keep4) := b2.at_ 4 rfl
    go_wp2_with fail
    refine HC.out.mono ?_
    clear HC
    rintro e w5 ⟨A5, c5, rfl, hf, o1⟩
    have o := o.tr o1
    have b2 := b2.old o1
    have b4 := b4.old o1
    clear o1 y0 y1 y2 y3 y4 HFL4
    obtain ⟨⟨cap5, F5, up5, left5, keep5⟩, E5⟩ := R5
    simp only at hf HG5
    have y0 : w5.cell? ⟨w.heap.size, 0, none⟩ = some (.int .i64 (cap4 : Int)) := b2.at_ 0 rfl
    have y1 : w5.cell? ⟨w.heap.size, 1, none⟩ = some (.slice A4 F4.length c4) := b2.at_ 1 rfl
    have y2 : w5.cell? ⟨w.heap.size, 2, none⟩ = some (.bool (!up4)) := b2.at_ 2 rfl
    have y3 : w5.cell? ⟨w.heap.size, 3, none⟩ = some (.int .i64 (left4 : Int)) := b2.at_ 3 rfl
    have y4 : w5.cell? ⟨w.heap.size, 4, none⟩ = some (.int .i64 keep4) := b2.at_ 4 rfl
    have yf0 := b2.fr 0
    have yf1 := b2.fr 1
    have yf2 := b2.fr 2
    have yf3 := b2.fr 3
    have yf4 := b2.fr 4
    have HH := Lib.hid (show _ ∧ _ ∧ _ ∧ _ from ⟨(((((o.st (p := ⟨w.heap.size, 0, none⟩) (Nat.le_refl _) (.int .i64 (cap5 : Int))).st (p := ⟨w.heap.size, 1, none⟩) (Nat.le_refl _) (.slice A5 F5.length c5)).st (p := ⟨w.heap.size, 2, none⟩) (Nat.le_refl _) (.bool (!up5))).st (p := ⟨w.heap.size, 3, none⟩) (Nat.le_refl _) (.int .i64 (left5 : Int))).st (p := ⟨w.heap.size, 4, none⟩) (Nat.le_refl _) (.int .i64 keep5)), (bk5 b2 (.int .i64 (cap5 : Int)) (.slice A5 F5.length c5) (.bool (!up5)) (.int .i64 (left5 : Int)) (.int .i64 keep5)), bfar5 b4 hn10 (.int .i64 (cap5 : Int)) (.slice A5 F5.length c5) (.bool (!up5)) (.int .i64 (left5 : Int)) (.int .i64 keep5), hf.far5 b2 (by decide) (.int .i64 (cap5 : Int)) (.slice A5 F5.length c5) (.bool (!up5)) (.int .i64 (left5 : Int)) (.int .i64 keep5)⟩)
    clear o b2 b4 hf
    go_upto_region 12 with (fail)
    obtain ⟨o, b2, b4, hf⟩ := HH.out
    clear HH y0 y1 y2 y3 y4 yf0 yf1 yf2 yf3 yf4
    generalize (((((w5.setCell ⟨w.heap.size, 0, none⟩ (.int .i64 (cap5 : Int))).setCell ⟨w.heap.size, 1, none⟩ (.slice A5 F5.length c5)).setCell ⟨w.heap.size, 2, none⟩ (.bool (!up5))).setCell ⟨w.heap.size, 3, none⟩ (.int .i64 (left5 : Int))).setCell ⟨w.heap.size, 4, none⟩ (.int .i64 keep5)) = W5 at *
    have HFL5 := Lib.hid hf
    clear hf
    have HX := Lib.hid (show R = (⟨cap5, F5, up5, left5, keep5⟩, E5) by rw [HR'.out, ← HR5.out])
    have y0 : W5.cell? ⟨w.heap.size, 0, none⟩ = some (.int .i64 (cap5 : Int)) := b2.at_ 0 rfl
    have y1 : W5.cell? ⟨w.heap.size, 1, none⟩ = some (.slice A5 F5.length c5) := b2.at_ 1 rfl
    have y2 : W5.cell? ⟨w.heap.size, 2, none⟩ = some (.bool (!up5)) := b2.at_ 2 rfl
    have y3 : W5.cell? ⟨w.heap.size, 3, none⟩ = some (.int .i64 (left5 : Int)) := b2.at_ 3 rfl
    have y4 : W5.cell? ⟨w.heap.size, 4, none⟩ = some (.int .i64 keep5) := b2.at_ 4 rfl
    have d0 : W5.cell? ⟨w.heap.size + 1, 0, none⟩ = some (.int .i64 0) := b4.at_ 0 rfl
    have d1 : W5.cell? ⟨w.heap.size + 1, 1, none⟩ = some (.slice none 0 0) := b4.at_ 1 rfl
    have d2 : W5.cell? ⟨w.heap.size + 1, 2, none⟩ = some (.bool false) := b4.at_ 2 rfl
    have d3 : W5.cell? ⟨w.heap.size + 1, 3, none⟩ = some (.int .i64 0) := b4.at_ 3 rfl
    have d4 : W5.cell? ⟨w.heap.size + 1, 4, none⟩ = some (.int .i64 0) := b4.at_ 4 rfl
    have df0 := b4.fr 0
    have df1 := b4.fr 1
    have df2 := b4.fr 2
    have df3 := b4.fr 3
    have df4 := b4.fr 4
    have oF := Lib.hid (((((o.st (p := ⟨w.heap.size + 1, 0, none⟩) (Nat.le_add_right _ _) (.int .i64 (cap5 : Int))).st (p := ⟨w.heap.size + 1, 1, none⟩) (Nat.le_add_right _ _) (.slice A5 F5.length c5)).st (p := ⟨w.heap.size + 1, 2, none⟩) (Nat.le_add_right _ _) (.bool (!up5))).st (p := ⟨w.heap.size + 1, 3, none⟩) (Nat.le_add_right _ _) (.int .i64 (left5 : Int))).st (p := ⟨w.heap.size + 1, 4, none⟩) (Nat.le_add_right _ _) (.int .i64 keep5))
    have bF := Lib.hid (bk5 b4 (.int .i64 (cap5 : Int)) (.slice A5 F5.length c5) (.bool (!up5)) (.int .i64 (left5 : Int)) (.int .i64 keep5))
    have HFB := Lib.hid (HFL5.out.far5 b4 (by decide) (.int .i64 (cap5 : Int)) (.slice A5 F5.length c5) (.bool (!up5)) (.int .i64 (left5 : Int)) (.int .i64 keep5))
    clear o b4 b2
    go_wp2
    have h1 := oF.out
    have h2 := bF.out
    have h3 := HFB.out
    clear oF bF HFB
    generalize (((((W5.setCell ⟨w.heap.size + 1, 0, none⟩ (.int .i64 (cap5 : Int))).setCell ⟨w.heap.size + 1, 1, none⟩ (.slice A5 F5.length c5)).setCell ⟨w.heap.size + 1, 2, none⟩ (.bool (!up5))).setCell ⟨w.heap.size + 1, 3, none⟩ (.int .i64 (left5 : Int))).setCell ⟨w.heap.size + 1, 4, none⟩ (.int .i64 keep5)) = WF at *
    have z0 : WF.cell? ⟨w.heap.size + 1, 0, none⟩ = some (.int .i64 (cap5 : Int)) := h2.at_ 0 rfl
    have z1 : WF.cell? ⟨w.heap.size + 1, 1, none⟩ = some (.slice A5 F5.length c5) := h2.at_ 1 rfl
    have z2 : WF.cell? ⟨w.heap.size + 1, 2, none⟩ = some (.bool (!up5)) := h2.at_ 2 rfl
    have z3 : WF.cell? ⟨w.heap.size + 1, 3, none⟩ = some (.int .i64 (left5 : Int)) := h2.at_ 3 rfl
    have z4 : WF.cell? ⟨w.heap.size + 1, 4, none⟩ = some (.int .i64 keep5) := h2.at_ 4 rfl
    refine bodyPost_ret (v := .tuple #[Rv (.slice A5 F5.length c5) ⟨cap5, F5, up5, left5, keep5⟩, .int .i64 E5]) (by simp [results, Tryd.results34, go_sem, z0, z1, z2, z3, z4]) rfl ?_
    rw [HX.out]
    exact ⟨_, _, rfl, h3, h1⟩
end Go.Proofs.YtilimfbjkgeciaaDoor
