/-
  Rename of the document's own disk. Conditions: the files lie in memory; no other name is greater than the new one.
-/
import Derived.Test.YtilimfbjkgeciaaDoorRSet
import Derived.Test.YtilimfbjkgeciaaDoorVG
namespace Go.Proofs.YtilimfbjkgeciaaDoor
set_option maxRecDepth 100000
open Go.RowKit

theorem mx10 : max (1 : Int) 0 = 1 := by decide
theorem mx01 : max (0 : Int) 1 = 1 := by decide
theorem pr_cases (r : Pd) (s t : List UInt8) : (perr r s = 6 ∧ perr r t = 6 ∧ prerr r s t = 6) ∨ (perr r s = 1 ∧ perr r t = 1 ∧ prerr r s t = 1) ∨ (perr r s = 1 ∧ perr r t = 0 ∧ prerr r s t = 1) ∨ (perr r s = 0 ∧ perr r t = 1 ∧ prerr r s t = 1)
    ∨ (perr r s = 0 ∧ perr r t = 0 ∧ prerr r s t = if (pfnd r.files s).isNone = true then 3 else 0) := by
  unfold perr prerr
  cases r.up <;> cases bad s <;> cases bad t <;> simp
set_option maxHeartbeats 8000000 in
theorem rrename_any (A : Option Addr) (c : Nat) (r : Pd) (s : List UInt8) (t : List UInt8) (hF : Fin r.files) (hl : r.left ≤ 9223372036854775807) (hT : Top (pdel t (pdel s r.files)) t) (hM : Fin (pmove s t r.files)) (w : World) (h : Flt w (.slice A r.files.length c) r.files) :
    Calls Tryd.prog 65 #[Rv (.slice A r.files.length c) r, .string (B s), .string (B t)] w (PostR w (rrename r s t)) := by
  obtain ⟨cap, F, up, left, keep⟩ := r
  simp only at hF hl h hT hM ⊢
  obtain ⟨R, hR⟩ : ∃ R, R = rrename ⟨cap, F, up, left, keep⟩ s t := ⟨_, rfl⟩
  rw [← hR]
  have o0 := (old_alloc w (.cells #[.int .i64 (cap : Int), .slice A F.length c, .bool (!up), .int .i64 (left : Int), .int .i64 keep] 29)).al (.cells zeroDsk 29)
  have b2 := (new_bk w 29 #[.int .i64 (cap : Int), .slice A F.length c, .bool (!up), .int .i64 (left : Int), .int .i64 keep]).old (old_alloc _ (.cells zeroDsk 29))
  have b4 := new_bk' (w.alloc (.cells #[.int .i64 (cap : Int), .slice A F.length c, .bool (!up), .int .i64 (left : Int), .int .i64 keep] 29)) 29 zeroDsk (w.heap.size + 1) (by simp)
  have H := Lib.hid (show _ ∧ _ ∧ _ from ⟨o0, b2, b4⟩)
  have HW := Lib.hid (fun w1 => rwrong_any (.slice A F.length c) ⟨cap, F, up, left, keep⟩ s w1)
  have HFL := Lib.hid h
  have HFI := Lib.hid hF
  have HR := Lib.hid hR
  clear o0 b2 b4 h hR
  have HT := Lib.hid hT
  have HM := Lib.hid hM
  have HV := Lib.hid (fun w1 => rwrong_any (.slice A F.length c) ⟨cap, F, up, left, keep⟩ t w1)
  have HP := Lib.hid (pr_cases ⟨cap, F, up, left, keep⟩ s t)
  clear hT hM
  obtain ⟨E, hE⟩ : ∃ E, E = perr ⟨cap, F, up, left, keep⟩ s := ⟨_, rfl⟩
  obtain ⟨E2, hE2⟩ : ∃ E, E = perr ⟨cap, F, up, left, keep⟩ t := ⟨_, rfl⟩
  obtain ⟨E3, hE3⟩ : ∃ E, E = prerr ⟨cap, F, up, left, keep⟩ s t := ⟨_, rfl⟩
  rw [← hE] at HW
  rw [← hE2] at HV
  rw [← hE, ← hE2, ← hE3] at HP
  have HE := Lib.hid hE3
  clear hE hE2 hE3
  go_enter Tryd.func65, Tryd.ntmps65
  go_wp2_with fail
  refine (HW.out _).mono ?_
  rintro e w1 ⟨rfl, o1⟩
  obtain ⟨o0, b2, b4⟩ := H.out
  have o := o0.tr o1
  have b2 := b2.old o1
  have b4 := b4.old o1
  clear o0 o1 H
  have c0 : w1.cell? ⟨w.heap.size, 0, none⟩ = some (.int .i64 (cap : Int)) := b2.at_ 0 rfl
  have c1 : w1.cell? ⟨w.heap.size, 1, none⟩ = some (.slice A F.length c) := b2.at_ 1 rfl
  have c2 : w1.cell? ⟨w.heap.size, 2, none⟩ = some (.bool (!up)) := b2.at_ 2 rfl
  have c3 : w1.cell? ⟨w.heap.size, 3, none⟩ = some (.int .i64 (left : Int)) := b2.at_ 3 rfl
  have c4 : w1.cell? ⟨w.heap.size, 4, none⟩ = some (.int .i64 keep) := b2.at_ 4 rfl
  go_wp2_with fail
  refine (HV.out _).mono ?_
  rintro e w2 ⟨rfl, o1⟩
  have o := o.tr o1
  have b2 := b2.old o1
  have b4 := b4.old o1
  clear o1 c0 c1 c2 c3 c4
  have c0 : w2.cell? ⟨w.heap.size, 0, none⟩ = some (.int .i64 (cap : Int)) := b2.at_ 0 rfl
  have c1 : w2.cell? ⟨w.heap.size, 1, none⟩ = some (.slice A F.length c) := b2.at_ 1 rfl
  have c2 : w2.cell? ⟨w.heap.size, 2, none⟩ = some (.bool (!up)) := b2.at_ 2 rfl
  have c3 : w2.cell? ⟨w.heap.size, 3, none⟩ = some (.int .i64 (left : Int)) := b2.at_ 3 rfl
  have c4 : w2.cell? ⟨w.heap.size, 4, none⟩ = some (.int .i64 keep) := b2.at_ 4 rfl
  have HFD := Lib.hid (rfind_any A c ⟨cap, F, up, left, keep⟩ s HFI.out.len w2 (HFL.out.1.old o))
  go_wp2_with fail
  refine HFD.out.mono ?_
  rintro e w3 ⟨i, rfl, hi, o1⟩
  have o := o.tr o1
  have b2 := b2.old o1
  have b4 := b4.old o1
  clear HFD o1 c0 c1 c2 c3 c4
  have herr : ∀ x : Int, E3 = x → x ≠ 0 → R = (⟨cap, F, up, left, keep⟩, x) := fun x hx h0 => by
    rw [HR.out]; unfold rrename; rw [← HE.out, hx, if_pos h0]
  have HER := Lib.hid herr
  clear herr
  have hp := HP.out
  clear HP
  rcases hp with ⟨rfl, rfl, h3⟩ | ⟨rfl, rfl, h3⟩ | ⟨rfl, rfl, h3⟩ | ⟨rfl, rfl, h3⟩ | ⟨rfl, rfl, h3⟩
  · have HX := Lib.hid (HER.out 6 h3 (by decide))
    clear h3 HER HR HE hi HT HM HV HW
    have c0 : w3.cell? ⟨w.heap.size, 0, none⟩ = some (.int .i64 (cap : Int)) := b2.at_ 0 rfl
    have c1 : w3.cell? ⟨w.heap.size, 1, none⟩ = some (.slice A F.length c) := b2.at_ 1 rfl
    have c2 : w3.cell? ⟨w.heap.size, 2, none⟩ = some (.bool (!up)) := b2.at_ 2 rfl
    have c3 : w3.cell? ⟨w.heap.size, 3, none⟩ = some (.int .i64 (left : Int)) := b2.at_ 3 rfl
    have c4 : w3.cell? ⟨w.heap.size, 4, none⟩ = some (.int .i64 keep) := b2.at_ 4 rfl
    have d0 : w3.cell? ⟨w.heap.size + 1, 0, none⟩ = some (.int .i64 0) := b4.at_ 0 rfl
    have d1 : w3.cell? ⟨w.heap.size + 1, 1, none⟩ = some (.slice none 0 0) := b4.at_ 1 rfl
    have d2 : w3.cell? ⟨w.heap.size + 1, 2, none⟩ = some (.bool false) := b4.at_ 2 rfl
    have d3 : w3.cell? ⟨w.heap.size + 1, 3, none⟩ = some (.int .i64 0) := b4.at_ 3 rfl
    have d4 : w3.cell? ⟨w.heap.size + 1, 4, none⟩ = some (.int .i64 0) := b4.at_ 4 rfl
    have df0 := b4.fr 0
    have df1 := b4.fr 1
    have df2 := b4.fr 2
    have df3 := b4.fr 3
    have df4 := b4.fr 4
    have oF := Lib.hid (((((o.st (p := ⟨w.heap.size + 1, 0, none⟩) (Nat.le_add_right _ _) (.int .i64 (cap : Int))).st (p := ⟨w.heap.size + 1, 1, none⟩) (Nat.le_add_right _ _) (.slice A F.length c)).st (p := ⟨w.heap.size + 1, 2, none⟩) (Nat.le_add_right _ _) (.bool (!up))).st (p := ⟨w.heap.size + 1, 3, none⟩) (Nat.le_add_right _ _) (.int .i64 (left : Int))).st (p := ⟨w.heap.size + 1, 4, none⟩) (Nat.le_add_right _ _) (.int .i64 keep))
    have bF := Lib.hid (bk5 b4 (.int .i64 (cap : Int)) (.slice A F.length c) (.bool (!up)) (.int .i64 (left : Int)) (.int .i64 keep))
    have HFB := Lib.hid ((HFL.out.old o).far5 b4 (by decide) (.int .i64 (cap : Int)) (.slice A F.length c) (.bool (!up)) (.int .i64 (left : Int)) (.int .i64 keep))
    clear o b4
    clear b2
    go_wp2
    have h1 := oF.out
    have h2 := bF.out
    have h3 := HFB.out
    clear oF bF HFB
    generalize (((((w3.setCell ⟨w.heap.size + 1, 0, none⟩ (.int .i64 (cap : Int))).setCell ⟨w.heap.size + 1, 1, none⟩ (.slice A F.length c)).setCell ⟨w.heap.size + 1, 2, none⟩ (.bool (!up))).setCell ⟨w.heap.size + 1, 3, none⟩ (.int .i64 (left : Int))).setCell ⟨w.heap.size + 1, 4, none⟩ (.int .i64 keep)) = WF at *
    have z0 : WF.cell? ⟨w.heap.size + 1, 0, none⟩ = some (.int .i64 (cap : Int)) := h2.at_ 0 rfl
    have z1 : WF.cell? ⟨w.heap.size + 1, 1, none⟩ = some (.slice A F.length c) := h2.at_ 1 rfl
    have z2 : WF.cell? ⟨w.heap.size + 1, 2, none⟩ = some (.bool (!up)) := h2.at_ 2 rfl
    have z3 : WF.cell? ⟨w.heap.size + 1, 3, none⟩ = some (.int .i64 (left : Int)) := h2.at_ 3 rfl
    have z4 : WF.cell? ⟨w.heap.size + 1, 4, none⟩ = some (.int .i64 keep) := h2.at_ 4 rfl
    refine bodyPost_ret (v := .tuple #[Rv (.slice A F.length c) ⟨cap, F, up, left, keep⟩, .int .i64 6]) (by simp [results, Tryd.results65, go_sem, z0, z1, z2, z3, z4]) rfl ?_
    rw [HX.out]
    exact ⟨_, _, rfl, h3, h1⟩
  · have HX := Lib.hid (HER.out 1 h3 (by decide))
    clear h3 HER HR HE hi HT HM HV HW
    have c0 : w3.cell? ⟨w.heap.size, 0, none⟩ = some (.int .i64 (cap : Int)) := b2.at_ 0 rfl
    have c1 : w3.cell? ⟨w.heap.size, 1, none⟩ = some (.slice A F.length c) := b2.at_ 1 rfl
    have c2 : w3.cell? ⟨w.heap.size, 2, none⟩ = some (.bool (!up)) := b2.at_ 2 rfl
    have c3 : w3.cell? ⟨w.heap.size, 3, none⟩ = some (.int .i64 (left : Int)) := b2.at_ 3 rfl
    have c4 : w3.cell? ⟨w.heap.size, 4, none⟩ = some (.int .i64 keep) := b2.at_ 4 rfl
    have d0 : w3.cell? ⟨w.heap.size + 1, 0, none⟩ = some (.int .i64 0) := b4.at_ 0 rfl
    have d1 : w3.cell? ⟨w.heap.size + 1, 1, none⟩ = some (.slice none 0 0) := b4.at_ 1 rfl
    have d2 : w3.cell? ⟨w.heap.size + 1, 2, none⟩ = some (.bool false) := b4.at_ 2 rfl
    have d3 : w3.cell? ⟨w.heap.size + 1, 3, none⟩ = some (.int .i64 0) := b4.at_ 3 rfl
    have d4 : w3.cell? ⟨w.heap.size + 1, 4, none⟩ = some (.int .i64 0) := b4.at_ 4 rfl
    have df0 := b4.fr 0
    have df1 := b4.fr 1
    have df2 := b4.fr 2
    have df3 := b4.fr 3
    have df4 := b4.fr 4
    have oF := Lib.hid (((((o.st (p := ⟨w.heap.size + 1, 0, none⟩) (Nat.le_add_right _ _) (.int .i64 (cap : Int))).st (p := ⟨w.heap.size + 1, 1, none⟩) (Nat.le_add_right _ _) (.slice A F.length c)).st (p := ⟨w.heap.size + 1, 2, none⟩) (Nat.le_add_right _ _) (.bool (!up))).st (p := ⟨w.heap.size + 1, 3, none⟩) (Nat.le_add_right _ _) (.int .i64 (left : Int))).st (p := ⟨w.heap.size + 1, 4, none⟩) (Nat.le_add_right _ _) (.int .i64 keep))
    have bF := Lib.hid (bk5 b4 (.int .i64 (cap : Int)) (.slice A F.length c) (.bool (!up)) (.int .i64 (left : Int)) (.int .i64 keep))
    have HFB := Lib.hid ((HFL.out.old o).far5 b4 (by decide) (.int .i64 (cap : Int)) (.slice A F.length c) (.bool (!up)) (.int .i64 (left : Int)) (.int .i64 keep))
    clear o b4
    clear b2
    go_wp2
    have h1 := oF.out
    have h2 := bF.out
    have h3 := HFB.out
    clear oF bF HFB
    generalize (((((w3.setCell ⟨w.heap.size + 1, 0, none⟩ (.int .i64 (cap : Int))).setCell ⟨w.heap.size + 1, 1, none⟩ (.slice A F.length c)).setCell ⟨w.heap.size + 1, 2, none⟩ (.bool (!up))).setCell ⟨w.heap.size + 1, 3, none⟩ (.int .i64 (left : Int))).setCell ⟨w.heap.size + 1, 4, none⟩ (.int .i64 keep)) = WF at *
    have z0 : WF.cell? ⟨w.heap.size + 1, 0, none⟩ = some (.int .i64 (cap : Int)) := h2.at_ 0 rfl
    have z1 : WF.cell? ⟨w.heap.size + 1, 1, none⟩ = some (.slice A F.length c) := h2.at_ 1 rfl
    have z2 : WF.cell? ⟨w.heap.size + 1, 2, none⟩ = some (.bool (!up)) := h2.at_ 2 rfl
    have z3 : WF.cell? ⟨w.heap.size + 1, 3, none⟩ = some (.int .i64 (left : Int)) := h2.at_ 3 rfl
    have z4 : WF.cell? ⟨w.heap.size + 1, 4, none⟩ = some (.int .i64 keep) := h2.at_ 4 rfl
    refine bodyPost_ret (v := .tuple #[Rv (.slice A F.length c) ⟨cap, F, up, left, keep⟩, .int .i64 1]) (by simp [results, Tryd.results65, go_sem, z0, z1, z2, z3, z4]) rfl ?_
    rw [HX.out]
    exact ⟨_, _, rfl, h3, h1⟩
  · have HX := Lib.hid (HER.out 1 h3 (by decide))
    clear h3 HER HR HE hi HT HM HV HW
    have c0 : w3.cell? ⟨w.heap.size, 0, none⟩ = some (.int .i64 (cap : Int)) := b2.at_ 0 rfl
    have c1 : w3.cell? ⟨w.heap.size, 1, none⟩ = some (.slice A F.length c) := b2.at_ 1 rfl
    have c2 : w3.cell? ⟨w.heap.size, 2, none⟩ = some (.bool (!up)) := b2.at_ 2 rfl
    have c3 : w3.cell? ⟨w.heap.size, 3, none⟩ = some (.int .i64 (left : Int)) := b2.at_ 3 rfl
    have c4 : w3.cell? ⟨w.heap.size, 4, none⟩ = some (.int .i64 keep) := b2.at_ 4 rfl
    have d0 : w3.cell? ⟨w.heap.size + 1, 0, none⟩ = some (.int .i64 0) := b4.at_ 0 rfl
    have d1 : w3.cell? ⟨w.heap.size + 1, 1, none⟩ = some (.slice none 0 0) := b4.at_ 1 rfl
    have d2 : w3.cell? ⟨w.heap.size + 1, 2, none⟩ = some (.bool false) := b4.at_ 2 rfl
    have d3 : w3.cell? ⟨w.heap.size + 1, 3, none⟩ = some (.int .i64 0) := b4.at_ 3 rfl
    have d4 : w3.cell? ⟨w.heap.size + 1, 4, none⟩ = some (.int .i64 0) := b4.at_ 4 rfl
    have df0 := b4.fr 0
    have df1 := b4.fr 1
    have df2 := b4.fr 2
    have df3 := b4.fr 3
    have df4 := b4.fr 4
    have oF := Lib.hid (((((o.st (p := ⟨w.heap.size + 1, 0, none⟩) (Nat.le_add_right _ _) (.int .i64 (cap : Int))).st (p := ⟨w.heap.size + 1, 1, none⟩) (Nat.le_add_right _ _) (.slice A F.length c)).st (p := ⟨w.heap.size + 1, 2, none⟩) (Nat.le_add_right _ _) (.bool (!up))).st (p := ⟨w.heap.size + 1, 3, none⟩) (Nat.le_add_right _ _) (.int .i64 (left : Int))).st (p := ⟨w.heap.size + 1, 4, none⟩) (Nat.le_add_right _ _) (.int .i64 keep))
    have bF := Lib.hid (bk5 b4 (.int .i64 (cap : Int)) (.slice A F.length c) (.bool (!up)) (.int .i64 (left : Int)) (.int .i64 keep))
    have HFB := Lib.hid ((HFL.out.old o).far5 b4 (by decide) (.int .i64 (cap : Int)) (.slice A F.length c) (.bool (!up)) (.int .i64 (left : Int)) (.int .i64 keep))
    clear o b4
    clear b2
    go_wp2
    have h1 := oF.out
    have h2 := bF.out
    have h3 := HFB.out
    clear oF bF HFB
    generalize (((((w3.setCell ⟨w.heap.size + 1, 0, none⟩ (.int .i64 (cap : Int))).setCell ⟨w.heap.size + 1, 1, none⟩ (.slice A F.length c)).setCell ⟨w.heap.size + 1, 2, none⟩ (.bool (!up))).setCell ⟨w.heap.size + 1, 3, none⟩ (.int .i64 (left : Int))).setCell ⟨w.heap.size + 1, 4, none⟩ (.int .i64 keep)) = WF at *
    have z0 : WF.cell? ⟨w.heap.size + 1, 0, none⟩ = some (.int .i64 (cap : Int)) := h2.at_ 0 rfl
    have z1 : WF.cell? ⟨w.heap.size + 1, 1, none⟩ = some (.slice A F.length c) := h2.at_ 1 rfl
    have z2 : WF.cell? ⟨w.heap.size + 1, 2, none⟩ = some (.bool (!up)) := h2.at_ 2 rfl
    have z3 : WF.cell? ⟨w.heap.size + 1, 3, none⟩ = some (.int .i64 (left : Int)) := h2.at_ 3 rfl
    have z4 : WF.cell? ⟨w.heap.size + 1, 4, none⟩ = some (.int .i64 keep) := h2.at_ 4 rfl
    refine bodyPost_ret (v := .tuple #[Rv (.slice A F.length c) ⟨cap, F, up, left, keep⟩, .int .i64 1]) (by simp [results, Tryd.results65, go_sem, z0, z1, z2, z3, z4, mx10]) rfl ?_
    rw [HX.out]
    exact ⟨_, _, rfl, h3, h1⟩
  · have HX := Lib.hid (HER.out 1 h3 (by decide))
    clear h3 HER HR HE hi HT HM HV HW
    have c0 : w3.cell? ⟨w.heap.size, 0, none⟩ = some (.int .i64 (cap : Int)) := b2.at_ 0 rfl
    have c1 : w3.cell? ⟨w.heap.size, 1, none⟩ = some (.slice A F.length c) := b2.at_ 1 rfl
    have c2 : w3.cell? ⟨w.heap.size, 2, none⟩ = some (.bool (!up)) := b2.at_ 2 rfl
    have c3 : w3.cell? ⟨w.heap.size, 3, none⟩ = some (.int .i64 (left : Int)) := b2.at_ 3 rfl
    have c4 : w3.cell? ⟨w.heap.size, 4, none⟩ = some (.int .i64 keep) := b2.at_ 4 rfl
    have d0 : w3.cell? ⟨w.heap.size + 1, 0, none⟩ = some (.int .i64 0) := b4.at_ 0 rfl
    have d1 : w3.cell? ⟨w.heap.size + 1, 1, none⟩ = some (.slice none 0 0) := b4.at_ 1 rfl
    have d2 : w3.cell? ⟨w.heap.size + 1, 2, none⟩ = some (.bool false) := b4.at_ 2 rfl
    have d3 : w3.cell? ⟨w.heap.size + 1, 3, none⟩ = some (.int .i64 0) := b4.at_ 3 rfl
    have d4 : w3.cell? ⟨w.heap.size + 1, 4, none⟩ = some (.int .i64 0) := b4.at_ 4 rfl
    have df0 := b4.fr 0
    have df1 := b4.fr 1
    have df2 := b4.fr 2
    have df3 := b4.fr 3
    have df4 := b4.fr 4
    have oF := Lib.hid (((((o.st (p := ⟨w.heap.size + 1, 0, none⟩) (Nat.le_add_right _ _) (.int .i64 (cap : Int))).st (p := ⟨w.heap.size + 1, 1, none⟩) (Nat.le_add_right _ _) (.slice A F.length c)).st (p := ⟨w.heap.size + 1, 2, none⟩) (Nat.le_add_right _ _) (.bool (!up))).st (p := ⟨w.heap.size + 1, 3, none⟩) (Nat.le_add_right _ _) (.int .i64 (left : Int))).st (p := ⟨w.heap.size + 1, 4, none⟩) (Nat.le_add_right _ _) (.int .i64 keep))
    have bF := Lib.hid (bk5 b4 (.int .i64 (cap : Int)) (.slice A F.length c) (.bool (!up)) (.int .i64 (left : Int)) (.int .i64 keep))
    have HFB := Lib.hid ((HFL.out.old o).far5 b4 (by decide) (.int .i64 (cap : Int)) (.slice A F.length c) (.bool (!up)) (.int .i64 (left : Int)) (.int .i64 keep))
    clear o b4
    clear b2
    go_wp2
    have h1 := oF.out
    have h2 := bF.out
    have h3 := HFB.out
    clear oF bF HFB
    generalize (((((w3.setCell ⟨w.heap.size + 1, 0, none⟩ (.int .i64 (cap : Int))).setCell ⟨w.heap.size + 1, 1, none⟩ (.slice A F.length c)).setCell ⟨w.heap.size + 1, 2, none⟩ (.bool (!up))).setCell ⟨w.heap.size + 1, 3, none⟩ (.int .i64 (left : Int))).setCell ⟨w.heap.size + 1, 4, none⟩ (.int .i64 keep)) = WF at *
    have z0 : WF.cell? ⟨w.heap.size + 1, 0, none⟩ = some (.int .i64 (cap : Int)) := h2.at_ 0 rfl
    have z1 : WF.cell? ⟨w.heap.size + 1, 1, none⟩ = some (.slice A F.length c) := h2.at_ 1 rfl
    have z2 : WF.cell? ⟨w.heap.size + 1, 2, none⟩ = some (.bool (!up)) := h2.at_ 2 rfl
    have z3 : WF.cell? ⟨w.heap.size + 1, 3, none⟩ = some (.int .i64 (left : Int)) := h2.at_ 3 rfl
    have z4 : WF.cell? ⟨w.heap.size + 1, 4, none⟩ = some (.int .i64 keep) := h2.at_ 4 rfl
    refine bodyPost_ret (v := .tuple #[Rv (.slice A F.length c) ⟨cap, F, up, left, keep⟩, .int .i64 1]) (by simp [results, Tryd.results65, go_sem, z0, z1, z2, z3, z4, mx01]) rfl ?_
    rw [HX.out]
    exact ⟨_, _, rfl, h3, h1⟩
  rcases hi with ⟨hn, rfl⟩ | ⟨k, f, hf, hk, rfl⟩
  · have HX := Lib.hid (HER.out 3 (by rw [h3]; simp [hn]) (by decide))
    clear h3 HER HR HE hn HT HM HV HW
    have c0 : w3.cell? ⟨w.heap.size, 0, none⟩ = some (.int .i64 (cap : Int)) := b2.at_ 0 rfl
    have c1 : w3.cell? ⟨w.heap.size, 1, none⟩ = some (.slice A F.length c) := b2.at_ 1 rfl
    have c2 : w3.cell? ⟨w.heap.size, 2, none⟩ = some (.bool (!up)) := b2.at_ 2 rfl
    have c3 : w3.cell? ⟨w.heap.size, 3, none⟩ = some (.int .i64 (left : Int)) := b2.at_ 3 rfl
    have c4 : w3.cell? ⟨w.heap.size, 4, none⟩ = some (.int .i64 keep) := b2.at_ 4 rfl
    have d0 : w3.cell? ⟨w.heap.size + 1, 0, none⟩ = some (.int .i64 0) := b4.at_ 0 rfl
    have d1 : w3.cell? ⟨w.heap.size + 1, 1, none⟩ = some (.slice none 0 0) := b4.at_ 1 rfl
    have d2 : w3.cell? ⟨w.heap.size + 1, 2, none⟩ = some (.bool false) := b4.at_ 2 rfl
    have d3 : w3.cell? ⟨w.heap.size + 1, 3, none⟩ = some (.int .i64 0) := b4.at_ 3 rfl
    have d4 : w3.cell? ⟨w.heap.size + 1, 4, none⟩ = some (.int .i64 0) := b4.at_ 4 rfl
    have df0 := b4.fr 0
    have df1 := b4.fr 1
    have df2 := b4.fr 2
    have df3 := b4.fr 3
    have df4 := b4.fr 4
    have oF := Lib.hid (((((o.st (p := ⟨w.heap.size + 1, 0, none⟩) (Nat.le_add_right _ _) (.int .i64 (cap : Int))).st (p := ⟨w.heap.size + 1, 1, none⟩) (Nat.le_add_right _ _) (.slice A F.length c)).st (p := ⟨w.heap.size + 1, 2, none⟩) (Nat.le_add_right _ _) (.bool (!up))).st (p := ⟨w.heap.size + 1, 3, none⟩) (Nat.le_add_right _ _) (.int .i64 (left : Int))).st (p := ⟨w.heap.size + 1, 4, none⟩) (Nat.le_add_right _ _) (.int .i64 keep))
    have bF := Lib.hid (bk5 b4 (.int .i64 (cap : Int)) (.slice A F.length c) (.bool (!up)) (.int .i64 (left : Int)) (.int .i64 keep))
    have HFB := Lib.hid ((HFL.out.old o).far5 b4 (by decide) (.int .i64 (cap : Int)) (.slice A F.length c) (.bool (!up)) (.int .i64 (left : Int)) (.int .i64 keep))
    clear o b4
    clear b2
    go_wp2
    have h1 := oF.out
    have h2 := bF.out
    have h3 := HFB.out
    clear oF bF HFB
    generalize (((((w3.setCell ⟨w.heap.size + 1, 0, none⟩ (.int .i64 (cap : Int))).setCell ⟨w.heap.size + 1, 1, none⟩ (.slice A F.length c)).setCell ⟨w.heap.size + 1, 2, none⟩ (.bool (!up))).setCell ⟨w.heap.size + 1, 3, none⟩ (.int .i64 (left : Int))).setCell ⟨w.heap.size + 1, 4, none⟩ (.int .i64 keep)) = WF at *
    have z0 : WF.cell? ⟨w.heap.size + 1, 0, none⟩ = some (.int .i64 (cap : Int)) := h2.at_ 0 rfl
    have z1 : WF.cell? ⟨w.heap.size + 1, 1, none⟩ = some (.slice A F.length c) := h2.at_ 1 rfl
    have z2 : WF.cell? ⟨w.heap.size + 1, 2, none⟩ = some (.bool (!up)) := h2.at_ 2 rfl
    have z3 : WF.cell? ⟨w.heap.size + 1, 3, none⟩ = some (.int .i64 (left : Int)) := h2.at_ 3 rfl
    have z4 : WF.cell? ⟨w.heap.size + 1, 4, none⟩ = some (.int .i64 keep) := h2.at_ 4 rfl
    refine bodyPost_ret (v := .tuple #[Rv (.slice A F.length c) ⟨cap, F, up, left, keep⟩, .int .i64 3]) (by simp [results, Tryd.results65, go_sem, z0, z1, z2, z3, z4]) rfl ?_
    rw [HX.out]
    exact ⟨_, _, rfl, h3, h1⟩
  have hkI : decide ((k : Int) < 0) = false := by rw [decide_eq_false_iff_not]; omega
  have hmv : pmove s t F = pdel t (pdel s F) ++ [⟨t, f.s, f.n⟩] := by unfold pmove; rw [hf]
  have HX := Lib.hid (show R = rgate ⟨cap, F, up, left, keep⟩ false (pmove s t F) by
    rw [HR.out]; unfold rrename; rw [← HE.out, h3]; simp [hf])
  rw [hmv] at HX HM
  have hkl : k < F.length := at_len hk
  have hlc := HFL.out.1.room
  have hkc : k < c := by omega
  have HKS := Lib.hid hk
  obtain ⟨xn, xs, xk⟩ := f
  simp only at HX HM
  clear h3 HER HR HE hf hk hmv HV HW
  have c0 : w3.cell? ⟨w.heap.size, 0, none⟩ = some (.int .i64 (cap : Int)) := b2.at_ 0 rfl
  have c1 : w3.cell? ⟨w.heap.size, 1, none⟩ = some (.slice A F.length c) := b2.at_ 1 rfl
  have c2 : w3.cell? ⟨w.heap.size, 2, none⟩ = some (.bool (!up)) := b2.at_ 2 rfl
  have c3 : w3.cell? ⟨w.heap.size, 3, none⟩ = some (.int .i64 (left : Int)) := b2.at_ 3 rfl
  have c4 : w3.cell? ⟨w.heap.size, 4, none⟩ = some (.int .i64 keep) := b2.at_ 4 rfl
  have oN := old_alloc w3 (.cells #[.int .i64 (cap : Int), .slice A F.length c, .bool (!up), .int .i64 (left : Int), .int .i64 keep] 29)
  have oA := o.al (.cells #[.int .i64 (cap : Int), .slice A F.length c, .bool (!up), .int .i64 (left : Int), .int .i64 keep] 29)
  have bA := b2.old oN
  have bB := b4.old oN
  have bN := new_bk w3 29 #[.int .i64 (cap : Int), .slice A F.length c, .bool (!up), .int .i64 (left : Int), .int .i64 keep]
  have hne : w3.heap.size ≠ w.heap.size := Nat.ne_of_gt b2.lt
  have hne1 : w3.heap.size ≠ w.heap.size + 1 := Nat.ne_of_gt b4.lt
  have hle := o.size
  have hN0 := b2.lt
  have hN1 := b4.lt
  have oB := oA.al (.cells (pcl ⟨t, xs, xk⟩) 83)
  have bA2 := bA.old (old_alloc _ (.cells (pcl ⟨t, xs, xk⟩) 83))
  have bB2 := bB.old (old_alloc _ (.cells (pcl ⟨t, xs, xk⟩) 83))
  have bN2 := bN.old (old_alloc _ (.cells (pcl ⟨t, xs, xk⟩) 83))
  have bF := new_bk' (w3.alloc (.cells #[.int .i64 (cap : Int), .slice A F.length c, .bool (!up), .int .i64 (left : Int), .int .i64 keep] 29)) 83 (pcl ⟨t, xs, xk⟩) (w3.heap.size + 1) (by simp)
  have HH := Lib.hid (show _ ∧ _ ∧ _ ∧ _ ∧ _ from ⟨oB, bA2, bB2, bN2, bF⟩)
  have a0 : (w3.alloc (.cells #[.int .i64 (cap : Int), .slice A F.length c, .bool (!up), .int .i64 (left : Int), .int .i64 keep] 29)).cell? ⟨w.heap.size, 0, none⟩ = some (.int .i64 (cap : Int)) := bA.at_ 0 rfl
  have a1 : (w3.alloc (.cells #[.int .i64 (cap : Int), .slice A F.length c, .bool (!up), .int .i64 (left : Int), .int .i64 keep] 29)).cell? ⟨w.heap.size, 1, none⟩ = some (.slice A F.length c) := bA.at_ 1 rfl
  have a2 : (w3.alloc (.cells #[.int .i64 (cap : Int), .slice A F.length c, .bool (!up), .int .i64 (left : Int), .int .i64 keep] 29)).cell? ⟨w.heap.size, 2, none⟩ = some (.bool (!up)) := bA.at_ 2 rfl
  have a3 : (w3.alloc (.cells #[.int .i64 (cap : Int), .slice A F.length c, .bool (!up), .int .i64 (left : Int), .int .i64 keep] 29)).cell? ⟨w.heap.size, 3, none⟩ = some (.int .i64 (left : Int)) := bA.at_ 3 rfl
  have a4 : (w3.alloc (.cells #[.int .i64 (cap : Int), .slice A F.length c, .bool (!up), .int .i64 (left : Int), .int .i64 keep] 29)).cell? ⟨w.heap.size, 4, none⟩ = some (.int .i64 keep) := bA.at_ 4 rfl
  have HFS := Lib.hid ((HFL.out.1.old oA).at_ HKS.out)
  obtain ⟨bb, off, rfl, g0, g1, g2⟩ := HFS.out
  simp only at g0 g1 g2
  clear oB bA2 bB2 bN2 bF oN oA bA bB bN b2 b4 HFS HKS
  go_upto_region 11 with (fail)
  clear g0 g1 g2 a0 a1 a2 a3 a4 c0 c1 c2 c3 c4 o
  obtain ⟨o, b2, b4, b5, bF⟩ := HH.out
  clear HH
  generalize (some (⟨bb, off, none⟩ : Addr)) = A at *
  generalize ((w3.alloc (.cells #[.int .i64 (cap : Int), .slice A F.length c, .bool (!up), .int .i64 (left : Int), .int .i64 keep] 29)).alloc (.cells (pcl ⟨t, xs, xk⟩) 83)) = W6 at *
  have hlD1 : (pdel s F).length ≤ 1000 := Nat.le_trans (pdel_le F s) HFI.out.len
  have hlD2 : (pdel t (pdel s F)).length ≤ 1000 := Nat.le_trans (pdel_le _ t) hlD1
  have HC1 := Lib.hid (fun (W : World) (o' : Old w W) => rwithout_any A c F s HFI.out.len W (HFL.out.old o'))
  have HC2 := Lib.hid (fun (A7 : Option Addr) (c7 : Nat) (W : World) h => rwithout_any A7 c7 (pdel s F) t hlD1 W h)
  have HC3 := Lib.hid (fun (A8 : Option Addr) (c8 : Nat) (W : World) h => rwith_any A8 c8 (pdel t (pdel s F)) ⟨t, xs, xk⟩ hlD2 HT.out W h)
  clear hlD1 hlD2 HT
  generalize pdel t (pdel s F) ++ [⟨t, xs, xk⟩] = D3 at *
  generalize pdel t (pdel s F) = D2 at *
  generalize pdel s F = D1 at *
  have hC : W6.drew.cell? ⟨w.heap.size, 1, none⟩ = some (.slice A F.length c) ∧ W6.drew.cell? ⟨w3.heap.size + 1, 0, none⟩ = some (.string (B t)) ∧ W6.drew.cell? ⟨w3.heap.size + 1, 1, none⟩ = some (.string (B xs)) ∧ W6.drew.cell? ⟨w3.heap.size + 1, 2, none⟩ = some (.int .i64 (xk : Int)) := ⟨b2.at_ 1 rfl, bF.at_ 0 rfl, bF.at_ 1 rfl, bF.at_ 2 rfl⟩
  have HKP := Lib.hid (show ∀ W, Old W6 W → W.cell? ⟨w.heap.size, 1, none⟩ = some (.slice A F.length c) ∧ W.cell? ⟨w3.heap.size + 1, 0, none⟩ = some (.string (B t)) ∧ W.cell? ⟨w3.heap.size + 1, 1, none⟩ = some (.string (B xs)) ∧ W.cell? ⟨w3.heap.size + 1, 2, none⟩ = some (.int .i64 (xk : Int)) from fun W o' => ⟨(b2.old o').at_ 1 rfl, (bF.old o').at_ 0 rfl, (bF.old o').at_ 1 rfl, (bF.old o').at_ 2 rfl⟩)
  have HBK := Lib.hid (show _ ∧ _ ∧ _ ∧ _ from ⟨b2, b4, b5, bF⟩)
  have HO6 := Lib.hid o
  clear b2 b4 b5 bF o hkI hkl hkc hlc
  refine wp_region_noPanic ?_
  refine wp_region_held_drew (S := fun W => W.cell? ⟨w.heap.size, 1, none⟩ = some (.slice A F.length c) ∧ W.cell? ⟨w3.heap.size + 1, 0, none⟩ = some (.string (B t)) ∧ W.cell? ⟨w3.heap.size + 1, 1, none⟩ = some (.string (B xs)) ∧ W.cell? ⟨w3.heap.size + 1, 2, none⟩ = some (.int .i64 (xk : Int))) (by kernel_rfl) hC (fun hHeld => ?_)
  refine wpAnyH_take (i := 0) (oi := ?o0) (v := .pointer (some ⟨w.heap.size, 1, none⟩)) ?h0 (by kernel_rfl) (by kernel_rfl) (by kernel_rfl) (fun _ _ _ h => h) ?y0 (by assumption) ?r0
  case h0 => (simp only [List.getElem?_toArray, List.getElem?_cons_zero]; rfl)
  case y0 => exact Or.inl ⟨by rfl, by (intro W hSw; (try dsimp only at hSw); go_simp)⟩
  simp only [Act.put, List.setIfInBounds_toArray, List.set_cons_zero, List.set_cons_succ]
  refine wpAnyH_take (i := 1) (oi := ?o1) (v := .slice A F.length c) ?h1 (by kernel_rfl) (by kernel_rfl) (by kernel_rfl) (fun _ _ _ h => h) ?y1 (by assumption) ?r1
  case h1 => (simp only [List.getElem?_toArray, List.getElem?_cons_zero, List.getElem?_cons_succ]; rfl)
  case y1 => exact Or.inl ⟨by rfl, by (intro W hSw; (try dsimp only at hSw); go_simp)⟩
  simp only [Act.put, List.setIfInBounds_toArray, List.set_cons_zero, List.set_cons_succ]
  refine wpAnyH_take (i := 2) (oi := ?o2) (v := .string (B s)) ?h2 (by kernel_rfl) (by kernel_rfl) (by kernel_rfl) (fun _ _ _ h => h) ?y2 (by assumption) ?r2
  case h2 => (simp only [List.getElem?_toArray, List.getElem?_cons_zero, List.getElem?_cons_succ]; rfl)
  case y2 => exact Or.inl ⟨by rfl, by (intro W hSw; (try dsimp only at hSw); go_simp)⟩
  simp only [Act.put, List.setIfInBounds_toArray, List.set_cons_zero, List.set_cons_succ]
  refine wpAnyH_take (i := 4) (oi := ?o4) (v := .string (B t)) ?h4 (by kernel_rfl) (by kernel_rfl) (by kernel_rfl) (fun _ _ _ h => h) ?y4 (by assumption) ?r4
  case h4 => (simp only [List.getElem?_toArray, List.getElem?_cons_zero, List.getElem?_cons_succ]; rfl)
  case y4 => exact Or.inl ⟨by rfl, by (intro W hSw; (try dsimp only at hSw); go_simp)⟩
  simp only [Act.put, List.setIfInBounds_toArray, List.set_cons_zero, List.set_cons_succ]
  refine wpAnyH_take (i := 6) (oi := ?o6) (v := .agg (pcl ⟨t, xs, xk⟩)) ?h6 (by kernel_rfl) (by kernel_rfl) (by kernel_rfl) (fun _ _ _ h => h) ?y6 (by assumption) ?r6
  case h6 => (simp only [List.getElem?_toArray, List.getElem?_cons_zero, List.getElem?_cons_succ]; rfl)
  case y6 => exact Or.inl ⟨by rfl, by (intro W hSw; (try dsimp only at hSw); go_simp)⟩
  simp only [Act.put, List.setIfInBounds_toArray, List.set_cons_zero, List.set_cons_succ]
  clear hHeld
  have od : Old W6 W6.drew := (Old.re W6).dr
  refine wpAnyH_ready (rs := [3]) (by kernel_rfl) (by simp) ?_
  refine AllReadyH.cons rfl (fun K hK => ?_) AllReadyH.nil
  go_simp
  refine (HC1.out _ (HO6.out.tr od)).mono ?_
  rintro e w7 ⟨A7, c7, rfl, h7, o7⟩
  have o7 := od.tr o7
  refine hK.out _ _ (HKP.out _ o7) (fun _ => ?_)
  clear hK
  refine wpAnyH_ready (rs := [5]) (by kernel_rfl) (by simp) ?_
  refine AllReadyH.cons rfl (fun K hK => ?_) AllReadyH.nil
  go_simp
  refine (HC2.out A7 c7 _ h7).mono ?_
  rintro e w8 ⟨A8, c8, rfl, h8, o8⟩
  have o8 := o7.tr o8
  refine hK.out _ _ (HKP.out _ o8) (fun _ => ?_)
  clear hK
  refine wpAnyH_ready (rs := [7]) (by kernel_rfl) (by simp) ?_
  refine AllReadyH.cons rfl (fun K hK => ?_) AllReadyH.nil
  go_simp
  refine (HC3.out A8 c8 _ h8).mono ?_
  rintro e w9 ⟨A1, c1, rfl, h9, o9⟩
  have o9 := o8.tr o9
  refine hK.out _ _ (HKP.out _ o9) (fun _ => ?_)
  clear hK HC1 HC2 HC3 h7 h8 o7 o8
  obtain ⟨b2, b4, b5, bF⟩ := HBK.out
  have b2 := b2.old o9
  have b4 := b4.old o9
  have b5 := b5.old o9
  have bF := bF.old o9
  have n1 := b5.at_ 1 rfl
  have nf := b5.fr 1
  refine wpAnyH_ready (rs := [8]) (by kernel_rfl) (by simp) ?_
  refine AllReadyH.cons rfl (fun K hK => ?_) AllReadyH.nil
  go_simp
  refine hK.out _ _ (HKP.out _ o9) (fun _ => ?_)
  clear hK
  have ob2 := b2.far (p := ⟨w3.heap.size, 1, none⟩) (Ne.symm hne) (.slice A1 D3.length c1)
  have ob4 := b4.far (p := ⟨w3.heap.size, 1, none⟩) (Ne.symm hne1) (.slice A1 D3.length c1)
  have obF := bF.far (p := ⟨w3.heap.size, 1, none⟩) (by show w3.heap.size + 1 ≠ w3.heap.size; omega) (.slice A1 D3.length c1)
  have ob5 := b5.set_ 1 (.slice A1 D3.length c1)
  have hD := h9.far b5 (by decide) 1 (.slice A1 D3.length c1)
  have oo := (HO6.out.tr o9).st (p := ⟨w3.heap.size, 1, none⟩) hle (.slice A1 D3.length c1)
  refine wpAnyH_ready (rs := [9]) (by kernel_rfl) (by simp) ?_
  refine AllReadyH.cons rfl (fun K hK => ?_) AllReadyH.nil
  go_simp
  refine hK.out _ _ ⟨ob2.at_ 1 rfl, obF.at_ 0 rfl, obF.at_ 1 rfl, obF.at_ 2 rfl⟩ (fun _ => ?_)
  clear hK
  refine wpAnyH_done (by kernel_rfl) ?_ _
  refine NoPanic.normal ?_
  clear b2 b4 b5 bF n1 nf o9 HKP HBK HO6 h9 obF od hC
  generalize w9.setCell ⟨w3.heap.size, 1, none⟩ (.slice A1 D3.length c1) = W4 at *
  have hA := HFL.out.old oo
  have p0 : W4.cell? ⟨w.heap.size, 0, none⟩ = some (.int .i64 (cap : Int)) := ob2.at_ 0 rfl
  have p1 : W4.cell? ⟨w.heap.size, 1, none⟩ = some (.slice A F.length c) := ob2.at_ 1 rfl
  have p2 : W4.cell? ⟨w.heap.size, 2, none⟩ = some (.bool (!up)) := ob2.at_ 2 rfl
  have p3 : W4.cell? ⟨w.heap.size, 3, none⟩ = some (.int .i64 (left : Int)) := ob2.at_ 3 rfl
  have p4 : W4.cell? ⟨w.heap.size, 4, none⟩ = some (.int .i64 keep) := ob2.at_ 4 rfl
  have q0 : W4.cell? ⟨w3.heap.size, 0, none⟩ = some (.int .i64 (cap : Int)) := ob5.at_ 0 rfl
  have q1 : W4.cell? ⟨w3.heap.size, 1, none⟩ = some (.slice A1 D3.length c1) := ob5.at_ 1 rfl
  have q2 : W4.cell? ⟨w3.heap.size, 2, none⟩ = some (.bool (!up)) := ob5.at_ 2 rfl
  have q3 : W4.cell? ⟨w3.heap.size, 3, none⟩ = some (.int .i64 (left : Int)) := ob5.at_ 3 rfl
  have q4 : W4.cell? ⟨w3.heap.size, 4, none⟩ = some (.int .i64 keep) := ob5.at_ 4 rfl
  have HDN := Lib.hid (rdone_any A A1 c c1 ⟨cap, F, up, left, keep⟩ D3 false HFI.out HM.out hl W4 hA hD)
  have o4 := Lib.hid oo
  have b4 := ob4
  clear ob2 ob4 ob5 hA hD oo
  go_wp2_with fail
  refine HDN.out.mono ?_
  clear HDN
  rintro e w5 ⟨A6, c6, rfl, hf6, o6⟩
  have o := o4.out.tr o6
  have b4 := b4.old o6
  rw [← HX.out] at hf6
  rw [← HX.out]
  obtain ⟨⟨cap6, F6, up6, left6, keep6⟩, e6⟩ := R
  simp only at hf6 ⊢
  have HFL := Lib.hid hf6
  clear hf6 o4 o6
  have d0 : w5.cell? ⟨w.heap.size + 1, 0, none⟩ = some (.int .i64 0) := b4.at_ 0 rfl
  have d1 : w5.cell? ⟨w.heap.size + 1, 1, none⟩ = some (.slice none 0 0) := b4.at_ 1 rfl
  have d2 : w5.cell? ⟨w.heap.size + 1, 2, none⟩ = some (.bool false) := b4.at_ 2 rfl
  have d3 : w5.cell? ⟨w.heap.size + 1, 3, none⟩ = some (.int .i64 0) := b4.at_ 3 rfl
  have d4 : w5.cell? ⟨w.heap.size + 1, 4, none⟩ = some (.int .i64 0) := b4.at_ 4 rfl
  have df0 := b4.fr 0
  have df1 := b4.fr 1
  have df2 := b4.fr 2
  have df3 := b4.fr 3
  have df4 := b4.fr 4
  have oF := Lib.hid (((((o.st (p := ⟨w.heap.size + 1, 0, none⟩) (Nat.le_add_right _ _) (.int .i64 (cap6 : Int))).st (p := ⟨w.heap.size + 1, 1, none⟩) (Nat.le_add_right _ _) (.slice A6 F6.length c6)).st (p := ⟨w.heap.size + 1, 2, none⟩) (Nat.le_add_right _ _) (.bool (!up6))).st (p := ⟨w.heap.size + 1, 3, none⟩) (Nat.le_add_right _ _) (.int .i64 (left6 : Int))).st (p := ⟨w.heap.size + 1, 4, none⟩) (Nat.le_add_right _ _) (.int .i64 keep6))
  have bF := Lib.hid (bk5 b4 (.int .i64 (cap6 : Int)) (.slice A6 F6.length c6) (.bool (!up6)) (.int .i64 (left6 : Int)) (.int .i64 keep6))
  have HFB := Lib.hid (HFL.out.far5 b4 (by decide) (.int .i64 (cap6 : Int)) (.slice A6 F6.length c6) (.bool (!up6)) (.int .i64 (left6 : Int)) (.int .i64 keep6))
  clear o b4
  go_wp2
  have h1 := oF.out
  have h2 := bF.out
  have h3 := HFB.out
  clear oF bF HFB
  generalize (((((w5.setCell ⟨w.heap.size + 1, 0, none⟩ (.int .i64 (cap6 : Int))).setCell ⟨w.heap.size + 1, 1, none⟩ (.slice A6 F6.length c6)).setCell ⟨w.heap.size + 1, 2, none⟩ (.bool (!up6))).setCell ⟨w.heap.size + 1, 3, none⟩ (.int .i64 (left6 : Int))).setCell ⟨w.heap.size + 1, 4, none⟩ (.int .i64 keep6)) = WF at *
  have z0 : WF.cell? ⟨w.heap.size + 1, 0, none⟩ = some (.int .i64 (cap6 : Int)) := h2.at_ 0 rfl
  have z1 : WF.cell? ⟨w.heap.size + 1, 1, none⟩ = some (.slice A6 F6.length c6) := h2.at_ 1 rfl
  have z2 : WF.cell? ⟨w.heap.size + 1, 2, none⟩ = some (.bool (!up6)) := h2.at_ 2 rfl
  have z3 : WF.cell? ⟨w.heap.size + 1, 3, none⟩ = some (.int .i64 (left6 : Int)) := h2.at_ 3 rfl
  have z4 : WF.cell? ⟨w.heap.size + 1, 4, none⟩ = some (.int .i64 keep6) := h2.at_ 4 rfl
  refine bodyPost_ret (v := .tuple #[Rv (.slice A6 F6.length c6) ⟨cap6, F6, up6, left6, keep6⟩, .int .i64 e6]) (by simp [results, Tryd.results65, go_sem, z0, z1, z2, z3, z4]) rfl ?_
  exact ⟨_, _, rfl, h3, h1⟩
end Go.Proofs.YtilimfbjkgeciaaDoor
