/-
  Texts in one: RApp RSyn. Conditions: as each theorem writes them.
-/
import Derived.Test.YtilimfbjkgeciaaDoorRSet
import Derived.Test.YtilimfbjkgeciaaDoorVG
namespace Go.Proofs.YtilimfbjkgeciaaDoor
set_option maxRecDepth 100000
open Go.RowKit

set_option maxHeartbeats 8000000 in
theorem rappend_any (A : Option Addr) (c : Nat) (r : Pd) (s : List UInt8) (t : List UInt8) (hF : Fin r.files) (hl : r.left ≤ 9223372036854775807) (hN : NdN r.files) (hc : r.cap ≤ 1000000) (htl : t.length ≤ 1000000000000) (w : World) (h : Flt w (.slice A r.files.length c) r.files) :
    Calls Tryd.prog 43 #[Rv (.slice A r.files.length c) r, .string (B s), .string (B t)] w (PostR w (rappend r s t)) := by
  obtain ⟨cap, F, up, left, keep⟩ := r
  simp only at hF hl h hN hc ⊢
  obtain ⟨R, hR⟩ : ∃ R, R = rappend ⟨cap, F, up, left, keep⟩ s t := ⟨_, rfl⟩
  rw [← hR]
  have o0 := (old_alloc w (.cells #[.int .i64 (cap : Int), .slice A F.length c, .bool (!up), .int .i64 (left : Int), .int .i64 keep] 29)).al (.cells zeroDsk 29)
  have b2 := (new_bk w 29 #[.int .i64 (cap : Int), .slice A F.length c, .bool (!up), .int .i64 (left : Int), .int .i64 keep]).old (old_alloc _ (.cells zeroDsk 29))
  have b4 := new_bk' (w.alloc (.cells #[.int .i64 (cap : Int), .slice A F.length c, .bool (!up), .int .i64 (left : Int), .int .i64 keep] 29)) 29 zeroDsk (w.heap.size + 1) (by simp)
  have H := Lib.hid (show _ ∧ _ ∧ _ from ⟨o0, b2, b4⟩)
  have HW := Lib.hid (fun w1 => rwrong_any (.slice A F.length c) ⟨cap, F, up, left, keep⟩ s w1)
  have HFL := Lib.hid h
  have HFI := Lib.hid hF
  have HR := Lib.hid hR
  clear o0 b2 b4 h hR
  have HN := Lib.hid hN
  clear hN
  obtain ⟨E, hE⟩ : ∃ E, E = perr ⟨cap, F, up, left, keep⟩ s := ⟨_, rfl⟩
  rw [← hE] at HW
  have HE := Lib.hid hE
  clear hE
  go_enter Tryd.func43, Tryd.ntmps43
  go_wp2_with fail
  refine (HW.out _).mono ?_
  rintro e w1 ⟨rfl, o1⟩
  obtain ⟨o0, b2, b4⟩ := H.out
  have o := o0.tr o1
  have b2 := b2.old o1
  have b4 := b4.old o1
  clear o0 o1 H
  have c0 : w1.cell? ⟨w.heap.size, 0, none⟩ = some (.int .i64 (cap : Int)) := b2.at_ 0 rfl
  have c1 : w1.cell? ⟨w.heap.size, 1, none⟩ = some (.slice A F.length c) := b2.at_ 1 rfl
  have c2 : w1.cell? ⟨w.heap.size, 2, none⟩ = some (.bool (!up)) := b2.at_ 2 rfl
  have c3 : w1.cell? ⟨w.heap.size, 3, none⟩ = some (.int .i64 (left : Int)) := b2.at_ 3 rfl
  have c4 : w1.cell? ⟨w.heap.size, 4, none⟩ = some (.int .i64 keep) := b2.at_ 4 rfl
  have HFD := Lib.hid (rfind_any A c ⟨cap, F, up, left, keep⟩ s HFI.out.len w1 (HFL.out.1.old o))
  go_wp2_with fail
  refine HFD.out.mono ?_
  rintro e w2 ⟨i, rfl, hi, o1⟩
  have o := o.tr o1
  have b2 := b2.old o1
  have b4 := b4.old o1
  clear HFD o1 c0 c1 c2 c3 c4
  by_cases he : E ≠ 0
  · have HX := Lib.hid (show R = (⟨cap, F, up, left, keep⟩, E) by rw [HR.out]; unfold rappend pneed; rw [← HE.out, if_pos he, if_pos he])
    have hb : (E != 0) = true := by simpa using he
    clear he HR HE hi
    have c0 : w2.cell? ⟨w.heap.size, 0, none⟩ = some (.int .i64 (cap : Int)) := b2.at_ 0 rfl
    have c1 : w2.cell? ⟨w.heap.size, 1, none⟩ = some (.slice A F.length c) := b2.at_ 1 rfl
    have c2 : w2.cell? ⟨w.heap.size, 2, none⟩ = some (.bool (!up)) := b2.at_ 2 rfl
    have c3 : w2.cell? ⟨w.heap.size, 3, none⟩ = some (.int .i64 (left : Int)) := b2.at_ 3 rfl
    have c4 : w2.cell? ⟨w.heap.size, 4, none⟩ = some (.int .i64 keep) := b2.at_ 4 rfl
    have d0 : w2.cell? ⟨w.heap.size + 1, 0, none⟩ = some (.int .i64 0) := b4.at_ 0 rfl
    have d1 : w2.cell? ⟨w.heap.size + 1, 1, none⟩ = some (.slice none 0 0) := b4.at_ 1 rfl
    have d2 : w2.cell? ⟨w.heap.size + 1, 2, none⟩ = some (.bool false) := b4.at_ 2 rfl
    have d3 : w2.cell? ⟨w.heap.size + 1, 3, none⟩ = some (.int .i64 0) := b4.at_ 3 rfl
    have d4 : w2.cell? ⟨w.heap.size + 1, 4, none⟩ = some (.int .i64 0) := b4.at_ 4 rfl
    have df0 := b4.fr 0
    have df1 := b4.fr 1
    have df2 := b4.fr 2
    have df3 := b4.fr 3
    have df4 := b4.fr 4
    have oF := Lib.hid (((((o.st (p := ⟨w.heap.size + 1, 0, none⟩) (Nat.le_add_right _ _) (.int .i64 (cap : Int))).st (p := ⟨w.heap.size + 1, 1, none⟩) (Nat.le_add_right _ _) (.slice A F.length c)).st (p := ⟨w.heap.size + 1, 2, none⟩) (Nat.le_add_right _ _) (.bool (!up))).st (p := ⟨w.heap.size + 1, 3, none⟩) (Nat.le_add_right _ _) (.int .i64 (left : Int))).st (p := ⟨w.heap.size + 1, 4, none⟩) (Nat.le_add_right _ _) (.int .i64 keep))
    have bF := Lib.hid (bk5 b4 (.int .i64 (cap : Int)) (.slice A F.length c) (.bool (!up)) (.int .i64 (left : Int)) (.int .i64 keep))
    have HFB := Lib.hid ((HFL.out.old o).far5 b4 (by decide) (.int .i64 (cap : Int)) (.slice A F.length c) (.bool (!up)) (.int .i64 (left : Int)) (.int .i64 keep))
    clear o b4
    clear b2
    go_wp2
    have h1 := oF.out
    have h2 := bF.out
    have h3 := HFB.out
    clear oF bF HFB
    generalize (((((w2.setCell ⟨w.heap.size + 1, 0, none⟩ (.int .i64 (cap : Int))).setCell ⟨w.heap.size + 1, 1, none⟩ (.slice A F.length c)).setCell ⟨w.heap.size + 1, 2, none⟩ (.bool (!up))).setCell ⟨w.heap.size + 1, 3, none⟩ (.int .i64 (left : Int))).setCell ⟨w.heap.size + 1, 4, none⟩ (.int .i64 keep)) = WF at *
    have z0 : WF.cell? ⟨w.heap.size + 1, 0, none⟩ = some (.int .i64 (cap : Int)) := h2.at_ 0 rfl
    have z1 : WF.cell? ⟨w.heap.size + 1, 1, none⟩ = some (.slice A F.length c) := h2.at_ 1 rfl
    have z2 : WF.cell? ⟨w.heap.size + 1, 2, none⟩ = some (.bool (!up)) := h2.at_ 2 rfl
    have z3 : WF.cell? ⟨w.heap.size + 1, 3, none⟩ = some (.int .i64 (left : Int)) := h2.at_ 3 rfl
    have z4 : WF.cell? ⟨w.heap.size + 1, 4, none⟩ = some (.int .i64 keep) := h2.at_ 4 rfl
    refine bodyPost_ret (v := .tuple #[Rv (.slice A F.length c) ⟨cap, F, up, left, keep⟩, .int .i64 E]) (by simp [results, Tryd.results43, go_sem, z0, z1, z2, z3, z4]) rfl ?_
    rw [HX.out]
    exact ⟨_, _, rfl, h3, h1⟩
  obtain rfl : E = 0 := by simpa using he
  clear he
  rcases hi with ⟨hn, rfl⟩ | ⟨k, f, hf, hk, rfl⟩
  · have HX := Lib.hid (show R = (⟨cap, F, up, left, keep⟩, 3) by
      rw [HR.out]; unfold rappend pneed; rw [← HE.out]; simp [hn])
    clear HR HE hn
    have c0 : w2.cell? ⟨w.heap.size, 0, none⟩ = some (.int .i64 (cap : Int)) := b2.at_ 0 rfl
    have c1 : w2.cell? ⟨w.heap.size, 1, none⟩ = some (.slice A F.length c) := b2.at_ 1 rfl
    have c2 : w2.cell? ⟨w.heap.size, 2, none⟩ = some (.bool (!up)) := b2.at_ 2 rfl
    have c3 : w2.cell? ⟨w.heap.size, 3, none⟩ = some (.int .i64 (left : Int)) := b2.at_ 3 rfl
    have c4 : w2.cell? ⟨w.heap.size, 4, none⟩ = some (.int .i64 keep) := b2.at_ 4 rfl
    have d0 : w2.cell? ⟨w.heap.size + 1, 0, none⟩ = some (.int .i64 0) := b4.at_ 0 rfl
    have d1 : w2.cell? ⟨w.heap.size + 1, 1, none⟩ = some (.slice none 0 0) := b4.at_ 1 rfl
    have d2 : w2.cell? ⟨w.heap.size + 1, 2, none⟩ = some (.bool false) := b4.at_ 2 rfl
    have d3 : w2.cell? ⟨w.heap.size + 1, 3, none⟩ = some (.int .i64 0) := b4.at_ 3 rfl
    have d4 : w2.cell? ⟨w.heap.size + 1, 4, none⟩ = some (.int .i64 0) := b4.at_ 4 rfl
    have df0 := b4.fr 0
    have df1 := b4.fr 1
    have df2 := b4.fr 2
    have df3 := b4.fr 3
    have df4 := b4.fr 4
    have oF := Lib.hid (((((o.st (p := ⟨w.heap.size + 1, 0, none⟩) (Nat.le_add_right _ _) (.int .i64 (cap : Int))).st (p := ⟨w.heap.size + 1, 1, none⟩) (Nat.le_add_right _ _) (.slice A F.length c)).st (p := ⟨w.heap.size + 1, 2, none⟩) (Nat.le_add_right _ _) (.bool (!up))).st (p := ⟨w.heap.size + 1, 3, none⟩) (Nat.le_add_right _ _) (.int .i64 (left : Int))).st (p := ⟨w.heap.size + 1, 4, none⟩) (Nat.le_add_right _ _) (.int .i64 keep))
    have bF := Lib.hid (bk5 b4 (.int .i64 (cap : Int)) (.slice A F.length c) (.bool (!up)) (.int .i64 (left : Int)) (.int .i64 keep))
    have HFB := Lib.hid ((HFL.out.old o).far5 b4 (by decide) (.int .i64 (cap : Int)) (.slice A F.length c) (.bool (!up)) (.int .i64 (left : Int)) (.int .i64 keep))
    clear o b4
    clear b2
    go_wp2
    have h1 := oF.out
    have h2 := bF.out
    have h3 := HFB.out
    clear oF bF HFB
    generalize (((((w2.setCell ⟨w.heap.size + 1, 0, none⟩ (.int .i64 (cap : Int))).setCell ⟨w.heap.size + 1, 1, none⟩ (.slice A F.length c)).setCell ⟨w.heap.size + 1, 2, none⟩ (.bool (!up))).setCell ⟨w.heap.size + 1, 3, none⟩ (.int .i64 (left : Int))).setCell ⟨w.heap.size + 1, 4, none⟩ (.int .i64 keep)) = WF at *
    have z0 : WF.cell? ⟨w.heap.size + 1, 0, none⟩ = some (.int .i64 (cap : Int)) := h2.at_ 0 rfl
    have z1 : WF.cell? ⟨w.heap.size + 1, 1, none⟩ = some (.slice A F.length c) := h2.at_ 1 rfl
    have z2 : WF.cell? ⟨w.heap.size + 1, 2, none⟩ = some (.bool (!up)) := h2.at_ 2 rfl
    have z3 : WF.cell? ⟨w.heap.size + 1, 3, none⟩ = some (.int .i64 (left : Int)) := h2.at_ 3 rfl
    have z4 : WF.cell? ⟨w.heap.size + 1, 4, none⟩ = some (.int .i64 keep) := h2.at_ 4 rfl
    refine bodyPost_ret (v := .tuple #[Rv (.slice A F.length c) ⟨cap, F, up, left, keep⟩, .int .i64 3]) (by simp [results, Tryd.results43, go_sem, z0, z1, z2, z3, z4]) rfl ?_
    rw [HX.out]
    exact ⟨_, _, rfl, h3, h1⟩
  have hkI : decide ((k : Int) < 0) = false := by rw [decide_eq_false_iff_not]; omega
  have HPS := Lib.hid (fun g => pset_set (g := g) HN.out hf hk)
  have HK := Lib.hid hk
  have hkl : k < F.length := at_len hk
  have hfm : f.s.length ≤ 1000000 := Nat.le_trans (le_ptot (List.mem_of_getElem? hk)) HFI.out.tot
  have c0 : w2.cell? ⟨w.heap.size, 0, none⟩ = some (.int .i64 (cap : Int)) := b2.at_ 0 rfl
  have c1 : w2.cell? ⟨w.heap.size, 1, none⟩ = some (.slice A F.length c) := b2.at_ 1 rfl
  have c2 : w2.cell? ⟨w.heap.size, 2, none⟩ = some (.bool (!up)) := b2.at_ 2 rfl
  have c3 : w2.cell? ⟨w.heap.size, 3, none⟩ = some (.int .i64 (left : Int)) := b2.at_ 3 rfl
  have c4 : w2.cell? ⟨w.heap.size, 4, none⟩ = some (.int .i64 keep) := b2.at_ 4 rfl
  have hS : Old w2 w2 ∧ w2.cell? ⟨w.heap.size, 0, none⟩ = some (.int .i64 (cap : Int)) ∧ w2.cell? ⟨w.heap.size, 1, none⟩ = some (.slice A F.length c) ∧ w2.cell? ⟨w.heap.size, 2, none⟩ = some (.bool (!up)) ∧ w2.cell? ⟨w.heap.size, 3, none⟩ = some (.int .i64 (left : Int)) ∧ w2.cell? ⟨w.heap.size, 4, none⟩ = some (.int .i64 keep) := keep5 b2 (Old.re _) (Old.re _)
  have HZ := Lib.hid fun (W' : World) (o' : Old w2 W') => rsize_any A c ⟨cap, F, up, left, keep⟩ HFI.out.len HFI.out.tot W' (HFL.out.1.old (o.tr o'))
  have HB2 := Lib.hid b2
  have wr : IntKind.i64.wrap ((ptot F : Int) + (t.length : Int)) = (ptot F : Int) + (t.length : Int) := by
    have := HFI.out.tot
    rw [IntKind.wrap_i64]
    omega
  by_cases hgt : cap < ptot F + t.length
  · have hgI : decide ((cap : Int) < (ptot F : Int) + (t.length : Int)) = true := by rw [decide_eq_true_iff]; omega
    have HX := Lib.hid (show R = (⟨cap, F, up, left, keep⟩, 2) by
      rw [HR.out]; unfold rappend pneed; rw [← HE.out]; simp [hf, hgt])
    clear HR HE hf hk hgt HPS HK
    go_wp2_with fail
    go_region_held3 (fun W' => Old w2 W' ∧ W'.cell? ⟨w.heap.size, 0, none⟩ = some (.int .i64 (cap : Int)) ∧ W'.cell? ⟨w.heap.size, 1, none⟩ = some (.slice A F.length c) ∧ W'.cell? ⟨w.heap.size, 2, none⟩ = some (.bool (!up)) ∧ W'.cell? ⟨w.heap.size, 3, none⟩ = some (.int .i64 (left : Int)) ∧ W'.cell? ⟨w.heap.size, 4, none⟩ = some (.int .i64 keep)) (first | exact ⟨hS.1.dr, hS.2⟩ | exact keep5 HB2.out (And.left (by assumption)) (by assumption))
      (first
        | (go_at_call 47; with_reducible refine (HZ.out _ (And.left (by assumption))).mono ?_; rintro r w3 ⟨rfl, h3⟩))
    have f3 : Old w2 w3 := And.left (by assumption)
    have o := o.tr f3
    have b2 := b2.old f3
    have b4 := b4.old f3
    clear hS HZ HB2 wr c0 c1 c2 c3 c4
    have c0 : w3.cell? ⟨w.heap.size, 0, none⟩ = some (.int .i64 (cap : Int)) := b2.at_ 0 rfl
    have c1 : w3.cell? ⟨w.heap.size, 1, none⟩ = some (.slice A F.length c) := b2.at_ 1 rfl
    have c2 : w3.cell? ⟨w.heap.size, 2, none⟩ = some (.bool (!up)) := b2.at_ 2 rfl
    have c3 : w3.cell? ⟨w.heap.size, 3, none⟩ = some (.int .i64 (left : Int)) := b2.at_ 3 rfl
    have c4 : w3.cell? ⟨w.heap.size, 4, none⟩ = some (.int .i64 keep) := b2.at_ 4 rfl
    have d0 : w3.cell? ⟨w.heap.size + 1, 0, none⟩ = some (.int .i64 0) := b4.at_ 0 rfl
    have d1 : w3.cell? ⟨w.heap.size + 1, 1, none⟩ = some (.slice none 0 0) := b4.at_ 1 rfl
    have d2 : w3.cell? ⟨w.heap.size + 1, 2, none⟩ = some (.bool false) := b4.at_ 2 rfl
    have d3 : w3.cell? ⟨w.heap.size + 1, 3, none⟩ = some (.int .i64 0) := b4.at_ 3 rfl
    have d4 : w3.cell? ⟨w.heap.size + 1, 4, none⟩ = some (.int .i64 0) := b4.at_ 4 rfl
    have df0 := b4.fr 0
    have df1 := b4.fr 1
    have df2 := b4.fr 2
    have df3 := b4.fr 3
    have df4 := b4.fr 4
    have oF := Lib.hid (((((o.st (p := ⟨w.heap.size + 1, 0, none⟩) (Nat.le_add_right _ _) (.int .i64 (cap : Int))).st (p := ⟨w.heap.size + 1, 1, none⟩) (Nat.le_add_right _ _) (.slice A F.length c)).st (p := ⟨w.heap.size + 1, 2, none⟩) (Nat.le_add_right _ _) (.bool (!up))).st (p := ⟨w.heap.size + 1, 3, none⟩) (Nat.le_add_right _ _) (.int .i64 (left : Int))).st (p := ⟨w.heap.size + 1, 4, none⟩) (Nat.le_add_right _ _) (.int .i64 keep))
    have bF := Lib.hid (bk5 b4 (.int .i64 (cap : Int)) (.slice A F.length c) (.bool (!up)) (.int .i64 (left : Int)) (.int .i64 keep))
    have HFB := Lib.hid ((HFL.out.old o).far5 b4 (by decide) (.int .i64 (cap : Int)) (.slice A F.length c) (.bool (!up)) (.int .i64 (left : Int)) (.int .i64 keep))
    clear o b4
    clear b2
    go_wp2
    have h1 := oF.out
    have h2 := bF.out
    have h3 := HFB.out
    clear oF bF HFB
    generalize (((((w3.setCell ⟨w.heap.size + 1, 0, none⟩ (.int .i64 (cap : Int))).setCell ⟨w.heap.size + 1, 1, none⟩ (.slice A F.length c)).setCell ⟨w.heap.size + 1, 2, none⟩ (.bool (!up))).setCell ⟨w.heap.size + 1, 3, none⟩ (.int .i64 (left : Int))).setCell ⟨w.heap.size + 1, 4, none⟩ (.int .i64 keep)) = WF at *
    have z0 : WF.cell? ⟨w.heap.size + 1, 0, none⟩ = some (.int .i64 (cap : Int)) := h2.at_ 0 rfl
    have z1 : WF.cell? ⟨w.heap.size + 1, 1, none⟩ = some (.slice A F.length c) := h2.at_ 1 rfl
    have z2 : WF.cell? ⟨w.heap.size + 1, 2, none⟩ = some (.bool (!up)) := h2.at_ 2 rfl
    have z3 : WF.cell? ⟨w.heap.size + 1, 3, none⟩ = some (.int .i64 (left : Int)) := h2.at_ 3 rfl
    have z4 : WF.cell? ⟨w.heap.size + 1, 4, none⟩ = some (.int .i64 keep) := h2.at_ 4 rfl
    refine bodyPost_ret (v := .tuple #[Rv (.slice A F.length c) ⟨cap, F, up, left, keep⟩, .int .i64 2]) (by simp [results, Tryd.results43, go_sem, z0, z1, z2, z3, z4]) rfl ?_
    rw [HX.out]
    exact ⟨_, _, rfl, h3, h1⟩
  have hgI : decide ((cap : Int) < (ptot F : Int) + (t.length : Int)) = false := by rw [decide_eq_false_iff_not]; omega
  have HX := Lib.hid (show R = rgate ⟨cap, F, up, left, keep⟩ true (pset s (grow t) F) by
    rw [HR.out]; unfold rappend pneed; rw [← HE.out]; simp [hf, hgt])
  have HFN := Lib.hid (fin_set HFI.out hk (grow t f) (by have := HFI.out.syn f (List.mem_of_getElem? hk); simp [grow]; omega) (by simp [grow]; omega))
  clear HR HE hf hk hgt
  go_wp2_with fail
  go_region_held3 (fun W' => Old w2 W' ∧ W'.cell? ⟨w.heap.size, 0, none⟩ = some (.int .i64 (cap : Int)) ∧ W'.cell? ⟨w.heap.size, 1, none⟩ = some (.slice A F.length c) ∧ W'.cell? ⟨w.heap.size, 2, none⟩ = some (.bool (!up)) ∧ W'.cell? ⟨w.heap.size, 3, none⟩ = some (.int .i64 (left : Int)) ∧ W'.cell? ⟨w.heap.size, 4, none⟩ = some (.int .i64 keep)) (first | exact ⟨hS.1.dr, hS.2⟩ | exact keep5 HB2.out (And.left (by assumption)) (by assumption))
    (first
      | (go_at_call 47; with_reducible refine (HZ.out _ (And.left (by assumption))).mono ?_; rintro r w3 ⟨rfl, h3⟩))
  have f3 : Old w2 w3 := And.left (by assumption)
  have o := o.tr f3
  have b2 := b2.old f3
  have b4 := b4.old f3
  clear hS HZ HB2 wr c0 c1 c2 c3 c4
  have c0 : w3.cell? ⟨w.heap.size, 0, none⟩ = some (.int .i64 (cap : Int)) := b2.at_ 0 rfl
  have c1 : w3.cell? ⟨w.heap.size, 1, none⟩ = some (.slice A F.length c) := b2.at_ 1 rfl
  have c2 : w3.cell? ⟨w.heap.size, 2, none⟩ = some (.bool (!up)) := b2.at_ 2 rfl
  have c3 : w3.cell? ⟨w.heap.size, 3, none⟩ = some (.int .i64 (left : Int)) := b2.at_ 3 rfl
  have c4 : w3.cell? ⟨w.heap.size, 4, none⟩ = some (.int .i64 keep) := b2.at_ 4 rfl
  have oN := old_alloc w3 (.cells #[.int .i64 (cap : Int), .slice A F.length c, .bool (!up), .int .i64 (left : Int), .int .i64 keep] 29)
  have oA := o.al (.cells #[.int .i64 (cap : Int), .slice A F.length c, .bool (!up), .int .i64 (left : Int), .int .i64 keep] 29)
  have bA := b2.old oN
  have bB := b4.old oN
  have bN := new_bk w3 29 #[.int .i64 (cap : Int), .slice A F.length c, .bool (!up), .int .i64 (left : Int), .int .i64 keep]
  have hne : w3.heap.size ≠ w.heap.size := Nat.ne_of_gt b2.lt
  have hne1 : w3.heap.size ≠ w.heap.size + 1 := Nat.ne_of_gt b4.lt
  have hle := o.size
  have hN0 := b2.lt
  have hN1 := b4.lt
  have oB := oA.al (.cells #[] 83)
  have bA2 := bA.old (old_alloc _ (.cells #[] 83))
  have bB2 := bB.old (old_alloc _ (.cells #[] 83))
  have bN2 := bN.old (old_alloc _ (.cells #[] 83))
  have HO := Lib.hid (OwnF.empty (base := w.heap.size) (new_bk' (w3.alloc (.cells #[.int .i64 (cap : Int), .slice A F.length c, .bool (!up), .int .i64 (left : Int), .int .i64 keep] 29)) 83 #[] (w3.heap.size + 1) (by simp)) (by omega))
  have HFS := Lib.hid (HFL.out.1.old oB)
  have hlen : ([] : List Pf).length * 40 + F.length * 40 ≤ 140737488355328 := by have := HFI.out.len; simp; omega
  have HB := Lib.hid oB
  have a0 : ((w3.alloc (.cells #[.int .i64 (cap : Int), .slice A F.length c, .bool (!up), .int .i64 (left : Int), .int .i64 keep] 29)).alloc (.cells #[] 83)).cell? ⟨w.heap.size, 0, none⟩ = some (.int .i64 (cap : Int)) := bA2.at_ 0 rfl
  have a1 : ((w3.alloc (.cells #[.int .i64 (cap : Int), .slice A F.length c, .bool (!up), .int .i64 (left : Int), .int .i64 keep] 29)).alloc (.cells #[] 83)).cell? ⟨w.heap.size, 1, none⟩ = some (.slice A F.length c) := bA2.at_ 1 rfl
  have a2 : ((w3.alloc (.cells #[.int .i64 (cap : Int), .slice A F.length c, .bool (!up), .int .i64 (left : Int), .int .i64 keep] 29)).alloc (.cells #[] 83)).cell? ⟨w.heap.size, 2, none⟩ = some (.bool (!up)) := bA2.at_ 2 rfl
  have a3 : ((w3.alloc (.cells #[.int .i64 (cap : Int), .slice A F.length c, .bool (!up), .int .i64 (left : Int), .int .i64 keep] 29)).alloc (.cells #[] 83)).cell? ⟨w.heap.size, 3, none⟩ = some (.int .i64 (left : Int)) := bA2.at_ 3 rfl
  have a4 : ((w3.alloc (.cells #[.int .i64 (cap : Int), .slice A F.length c, .bool (!up), .int .i64 (left : Int), .int .i64 keep] 29)).alloc (.cells #[] 83)).cell? ⟨w.heap.size, 4, none⟩ = some (.int .i64 keep) := bA2.at_ 4 rfl
  clear oN oA bA bB bN oB
  go_wp2_with (at_builtin; refine wp_fls rfl (.tmp 34) (.tmp 36) rfl (W0 := w) HB.out _ [] F rfl HO.out _ rfl HFS.out (by rw [Nat.add_mul]; exact hlen) ?_; intro v8 w8 n8 o8 g8 f8; refine Hid.out ?_)
  rw [List.nil_append] at n8
  obtain ⟨A8, c8, rfl, hc8⟩ := n8.fls.form
  have b2 := bA2.grown g8 (show some w.heap.size ≠ some (w3.heap.size + 1) by simp; omega)
  have b4 := bB2.grown g8 (show some (w.heap.size + 1) ≠ some (w3.heap.size + 1) by simp; omega)
  have b6 := bN2.grown g8 (show some w3.heap.size ≠ some (w3.heap.size + 1) by simp)
  clear g8 f8 bA2 bB2 bN2 HO HFS HB a0 a1 a2 a3 a4 c0 c1 c2 c3 c4
  refine Lib.hid ?_
  have o4 := o8.st (p := ⟨w3.heap.size, 1, none⟩) hle (.slice A8 F.length c8)
  have hb2 := b2.far (p := ⟨w3.heap.size, 1, none⟩) (Ne.symm hne) (.slice A8 F.length c8)
  have hb4 := b4.far (p := ⟨w3.heap.size, 1, none⟩) (Ne.symm hne1) (.slice A8 F.length c8)
  have hb5 := b6.set_ 1 (.slice A8 F.length c8)
  have nW := n8.setf (n8.ne b6 (by decide)) 1 (.slice A8 F.length c8)
  have n0 : w8.cell? ⟨w3.heap.size, 0, none⟩ = some (.int .i64 (cap : Int)) := b6.at_ 0 rfl
  have n1 : w8.cell? ⟨w3.heap.size, 1, none⟩ = some (.slice A F.length c) := b6.at_ 1 rfl
  have n2 : w8.cell? ⟨w3.heap.size, 2, none⟩ = some (.bool (!up)) := b6.at_ 2 rfl
  have n3 : w8.cell? ⟨w3.heap.size, 3, none⟩ = some (.int .i64 (left : Int)) := b6.at_ 3 rfl
  have n4 : w8.cell? ⟨w3.heap.size, 4, none⟩ = some (.int .i64 keep) := b6.at_ 4 rfl
  have nf0 := b6.fr 0
  have nf1 := b6.fr 1
  have nf2 := b6.fr 2
  have nf3 := b6.fr 3
  have nf4 := b6.fr 4
  have HH := Lib.hid (show _ ∧ _ ∧ _ ∧ _ ∧ _ from ⟨o4, hb2, hb4, hb5, nW⟩)
  clear o4 hb2 hb4 hb5 nW n8 o8 b2 b4 b6 hc8
  go_upto_region 11 with (fail)
  obtain ⟨o4, b2, b4, b5, nW⟩ := HH.out
  clear HH n0 n1 n2 n3 n4 nf0 nf1 nf2 nf3 nf4
  generalize (w8.setCell ⟨w3.heap.size, 1, none⟩ (.slice A8 F.length c8)) = W4 at *
  obtain ⟨gr, rr, rfl, -, hg, hr0, hbk, hr1, hr2⟩ := nW.form (by omega)
  obtain ⟨a0, a1, a2⟩ := bkF_at hbk HK.out
  obtain ⟨xn, xs, xk⟩ := f
  simp only at a0 a1 a2 hfm
  have fr1 := hbk.fr (k * 3 + 1)
  have q1 : W4.cell? ⟨w3.heap.size, 1, none⟩ = some (.slice (some ⟨gr, 0, none⟩) F.length c8) := b5.at_ 1 rfl
  have hkc : k < c8 := by omega
  have hcat := add_B xs t
  have i7 : ¬ 9223372036854775807 < xs.length + t.length := by omega
  have i8 : (9223372036854775807 < xs.length + t.length) = False := by simpa using i7
  have hbk1 : Bk W4 gr 83 _ := hbk
  have hPS : Flt (W4.setCell ⟨gr, k * 3 + 1, none⟩ (.string (B (xs ++ t)))).drew (.slice (some ⟨gr, 0, none⟩) F.length c8) (F.set k (grow t ⟨xn, xs, xk⟩)) := (bkF_put hbk1 HK.out HFI.out.len hr1 hr0 hr2 (xs ++ t)).old (Old.re _).dr
  rw [← HPS.out] at hPS
  have HF5 := Lib.hid hPS
  clear hPS
  have hg0 : w.heap.size ≠ gr := Bk.ne b2 hbk (by decide)
  have hg1 : w.heap.size + 1 ≠ gr := Bk.ne b4 hbk (by decide)
  have hg2 : w3.heap.size ≠ gr := Bk.ne b5 hbk (by decide)
  have o5 := (o4.st (p := ⟨gr, k * 3 + 1, none⟩) hg (.string (B (xs ++ t)))).dr
  have hb2 := b2
  have hb4 := b4
  have hb5 := b5
  have hln := pset_len F s (grow t)
  rw [← HPS.out] at HFN
  clear HPS HN
  generalize pset s (grow t) F = M at *
  have ob2 : Bk (W4.setCell ⟨gr, k * 3 + 1, none⟩ (.string (B (xs ++ t)))).drew _ _ _ := hb2.far (p := ⟨gr, k * 3 + 1, none⟩) hg0 (.string (B (xs ++ t)))
  have ob4 : Bk (W4.setCell ⟨gr, k * 3 + 1, none⟩ (.string (B (xs ++ t)))).drew _ _ _ := hb4.far (p := ⟨gr, k * 3 + 1, none⟩) hg1 (.string (B (xs ++ t)))
  have ob5 : Bk (W4.setCell ⟨gr, k * 3 + 1, none⟩ (.string (B (xs ++ t)))).drew _ _ _ := hb5.far (p := ⟨gr, k * 3 + 1, none⟩) hg2 (.string (B (xs ++ t)))
  have HFA := HFL.out.old o5
  have HH := Lib.hid (show _ ∧ _ ∧ _ ∧ _ ∧ _ ∧ _ from ⟨o5, ob2, ob4, ob5, HF5.out, HFA⟩)
  clear o4 o5 b2 b4 b5 nW hbk hbk1 hb2 hb4 hb5 ob2 ob4 ob5 HFA HF5 hr0 hr1 hr2 hg0 hg1 hg2
  have HLN := Lib.hid hln
  clear hln
  go_still_tail 13, (by kernel_rfl)
  go_upto_region 12 with (fail)
  obtain ⟨o5, b2, b4, b5, hM, hA⟩ := HH.out
  clear HH
  generalize (W4.setCell ⟨gr, k * 3 + 1, none⟩ (.string (B (xs ++ t)))).drew = W5 at *
  have p0 : W5.cell? ⟨w.heap.size, 0, none⟩ = some (.int .i64 (cap : Int)) := b2.at_ 0 rfl
  have p1 : W5.cell? ⟨w.heap.size, 1, none⟩ = some (.slice A F.length c) := b2.at_ 1 rfl
  have p2 : W5.cell? ⟨w.heap.size, 2, none⟩ = some (.bool (!up)) := b2.at_ 2 rfl
  have p3 : W5.cell? ⟨w.heap.size, 3, none⟩ = some (.int .i64 (left : Int)) := b2.at_ 3 rfl
  have p4 : W5.cell? ⟨w.heap.size, 4, none⟩ = some (.int .i64 keep) := b2.at_ 4 rfl
  have u0 : W5.cell? ⟨w3.heap.size, 0, none⟩ = some (.int .i64 (cap : Int)) := b5.at_ 0 rfl
  have u1 : W5.cell? ⟨w3.heap.size, 1, none⟩ = some (.slice (some ⟨gr, 0, none⟩) F.length c8) := b5.at_ 1 rfl
  have u2 : W5.cell? ⟨w3.heap.size, 2, none⟩ = some (.bool (!up)) := b5.at_ 2 rfl
  have u3 : W5.cell? ⟨w3.heap.size, 3, none⟩ = some (.int .i64 (left : Int)) := b5.at_ 3 rfl
  have u4 : W5.cell? ⟨w3.heap.size, 4, none⟩ = some (.int .i64 keep) := b5.at_ 4 rfl
  have HDN := rdone_any A (some ⟨gr, 0, none⟩) c c8 ⟨cap, F, up, left, keep⟩ M true HFI.out HFN.out hl W5 hA (by rw [HLN.out]; exact hM)
  rw [HLN.out] at HDN
  have HDN := Lib.hid HDN
  have o4 := Lib.hid o5
  clear b2 b5 hM hA o5
  go_wp2_with fail
  refine HDN.out.mono ?_
  clear HDN
  rintro e w5 ⟨A6, c6, rfl, hf6, o6⟩
  have o := o4.out.tr o6
  have b4 := b4.old o6
  rw [← HX.out] at hf6
  rw [← HX.out]
  obtain ⟨⟨cap6, F6, up6, left6, keep6⟩, e6⟩ := R
  simp only at hf6 ⊢
  have HFL := Lib.hid hf6
  clear hf6 o4 o6
  have d0 : w5.cell? ⟨w.heap.size + 1, 0, none⟩ = some (.int .i64 0) := b4.at_ 0 rfl
  have d1 : w5.cell? ⟨w.heap.size + 1, 1, none⟩ = some (.slice none 0 0) := b4.at_ 1 rfl
  have d2 : w5.cell? ⟨w.heap.size + 1, 2, none⟩ = some (.bool false) := b4.at_ 2 rfl
  have d3 : w5.cell? ⟨w.heap.size + 1, 3, none⟩ = some (.int .i64 0) := b4.at_ 3 rfl
  have d4 : w5.cell? ⟨w.heap.size + 1, 4, none⟩ = some (.int .i64 0) := b4.at_ 4 rfl
  have df0 := b4.fr 0
  have df1 := b4.fr 1
  have df2 := b4.fr 2
  have df3 := b4.fr 3
  have df4 := b4.fr 4
  have oF := Lib.hid (((((o.st (p := ⟨w.heap.size + 1, 0, none⟩) (Nat.le_add_right _ _) (.int .i64 (cap6 : Int))).st (p := ⟨w.heap.size + 1, 1, none⟩) (Nat.le_add_right _ _) (.slice A6 F6.length c6)).st (p := ⟨w.heap.size + 1, 2, none⟩) (Nat.le_add_right _ _) (.bool (!up6))).st (p := ⟨w.heap.size + 1, 3, none⟩) (Nat.le_add_right _ _) (.int .i64 (left6 : Int))).st (p := ⟨w.heap.size + 1, 4, none⟩) (Nat.le_add_right _ _) (.int .i64 keep6))
  have bF := Lib.hid (bk5 b4 (.int .i64 (cap6 : Int)) (.slice A6 F6.length c6) (.bool (!up6)) (.int .i64 (left6 : Int)) (.int .i64 keep6))
  have HFB := Lib.hid (HFL.out.far5 b4 (by decide) (.int .i64 (cap6 : Int)) (.slice A6 F6.length c6) (.bool (!up6)) (.int .i64 (left6 : Int)) (.int .i64 keep6))
  clear o b4
  go_wp2
  have h1 := oF.out
  have h2 := bF.out
  have h3 := HFB.out
  clear oF bF HFB
  generalize (((((w5.setCell ⟨w.heap.size + 1, 0, none⟩ (.int .i64 (cap6 : Int))).setCell ⟨w.heap.size + 1, 1, none⟩ (.slice A6 F6.length c6)).setCell ⟨w.heap.size + 1, 2, none⟩ (.bool (!up6))).setCell ⟨w.heap.size + 1, 3, none⟩ (.int .i64 (left6 : Int))).setCell ⟨w.heap.size + 1, 4, none⟩ (.int .i64 keep6)) = WF at *
  have z0 : WF.cell? ⟨w.heap.size + 1, 0, none⟩ = some (.int .i64 (cap6 : Int)) := h2.at_ 0 rfl
  have z1 : WF.cell? ⟨w.heap.size + 1, 1, none⟩ = some (.slice A6 F6.length c6) := h2.at_ 1 rfl
  have z2 : WF.cell? ⟨w.heap.size + 1, 2, none⟩ = some (.bool (!up6)) := h2.at_ 2 rfl
  have z3 : WF.cell? ⟨w.heap.size + 1, 3, none⟩ = some (.int .i64 (left6 : Int)) := h2.at_ 3 rfl
  have z4 : WF.cell? ⟨w.heap.size + 1, 4, none⟩ = some (.int .i64 keep6) := h2.at_ 4 rfl
  refine bodyPost_ret (v := .tuple #[Rv (.slice A6 F6.length c6) ⟨cap6, F6, up6, left6, keep6⟩, .int .i64 e6]) (by simp [results, Tryd.results43, go_sem, z0, z1, z2, z3, z4]) rfl ?_
  exact ⟨_, _, rfl, h3, h1⟩
end Go.Proofs.YtilimfbjkgeciaaDoor

namespace Go.Proofs.YtilimfbjkgeciaaDoor
set_option maxRecDepth 100000
open Go.RowKit

set_option maxHeartbeats 8000000 in
theorem rsync_any (A : Option Addr) (c : Nat) (r : Pd) (s : List UInt8) (hF : Fin r.files) (hl : r.left ≤ 9223372036854775807) (hN : NdN r.files) (w : World) (h : Flt w (.slice A r.files.length c) r.files) :
    Calls Tryd.prog 35 #[Rv (.slice A r.files.length c) r, .string (B s)] w (PostR w (rsync r s)) := by
  obtain ⟨cap, F, up, left, keep⟩ := r
  simp only at hF hl h hN ⊢
  obtain ⟨R, hR⟩ : ∃ R, R = rsync ⟨cap, F, up, left, keep⟩ s := ⟨_, rfl⟩
  rw [← hR]
  have o0 := (old_alloc w (.cells #[.int .i64 (cap : Int), .slice A F.length c, .bool (!up), .int .i64 (left : Int), .int .i64 keep] 29)).al (.cells zeroDsk 29)
  have b2 := (new_bk w 29 #[.int .i64 (cap : Int), .slice A F.length c, .bool (!up), .int .i64 (left : Int), .int .i64 keep]).old (old_alloc _ (.cells zeroDsk 29))
  have b4 := new_bk' (w.alloc (.cells #[.int .i64 (cap : Int), .slice A F.length c, .bool (!up), .int .i64 (left : Int), .int .i64 keep] 29)) 29 zeroDsk (w.heap.size + 1) (by simp)
  have H := Lib.hid (show _ ∧ _ ∧ _ from ⟨o0, b2, b4⟩)
  have HW := Lib.hid (fun w1 => rwrong_any (.slice A F.length c) ⟨cap, F, up, left, keep⟩ s w1)
  have HFL := Lib.hid h
  have HFI := Lib.hid hF
  have HR := Lib.hid hR
  clear o0 b2 b4 h hR
  have HN := Lib.hid hN
  clear hN
  obtain ⟨E, hE⟩ : ∃ E, E = perr ⟨cap, F, up, left, keep⟩ s := ⟨_, rfl⟩
  rw [← hE] at HW
  have HE := Lib.hid hE
  clear hE
  go_enter Tryd.func35, Tryd.ntmps35
  go_wp2_with fail
  refine (HW.out _).mono ?_
  rintro e w1 ⟨rfl, o1⟩
  obtain ⟨o0, b2, b4⟩ := H.out
  have o := o0.tr o1
  have b2 := b2.old o1
  have b4 := b4.old o1
  clear o0 o1 H
  have c0 : w1.cell? ⟨w.heap.size, 0, none⟩ = some (.int .i64 (cap : Int)) := b2.at_ 0 rfl
  have c1 : w1.cell? ⟨w.heap.size, 1, none⟩ = some (.slice A F.length c) := b2.at_ 1 rfl
  have c2 : w1.cell? ⟨w.heap.size, 2, none⟩ = some (.bool (!up)) := b2.at_ 2 rfl
  have c3 : w1.cell? ⟨w.heap.size, 3, none⟩ = some (.int .i64 (left : Int)) := b2.at_ 3 rfl
  have c4 : w1.cell? ⟨w.heap.size, 4, none⟩ = some (.int .i64 keep) := b2.at_ 4 rfl
  have HFD := Lib.hid (rfind_any A c ⟨cap, F, up, left, keep⟩ s HFI.out.len w1 (HFL.out.1.old o))
  go_wp2_with fail
  refine HFD.out.mono ?_
  rintro e w2 ⟨i, rfl, hi, o1⟩
  have o := o.tr o1
  have b2 := b2.old o1
  have b4 := b4.old o1
  clear HFD o1 c0 c1 c2 c3 c4
  by_cases he : E ≠ 0
  · have HX := Lib.hid (show R = (⟨cap, F, up, left, keep⟩, E) by rw [HR.out]; unfold rsync pneed; rw [← HE.out, if_pos he, if_pos he])
    have hb : (E != 0) = true := by simpa using he
    clear he HR HE hi
    have c0 : w2.cell? ⟨w.heap.size, 0, none⟩ = some (.int .i64 (cap : Int)) := b2.at_ 0 rfl
    have c1 : w2.cell? ⟨w.heap.size, 1, none⟩ = some (.slice A F.length c) := b2.at_ 1 rfl
    have c2 : w2.cell? ⟨w.heap.size, 2, none⟩ = some (.bool (!up)) := b2.at_ 2 rfl
    have c3 : w2.cell? ⟨w.heap.size, 3, none⟩ = some (.int .i64 (left : Int)) := b2.at_ 3 rfl
    have c4 : w2.cell? ⟨w.heap.size, 4, none⟩ = some (.int .i64 keep) := b2.at_ 4 rfl
    have d0 : w2.cell? ⟨w.heap.size + 1, 0, none⟩ = some (.int .i64 0) := b4.at_ 0 rfl
    have d1 : w2.cell? ⟨w.heap.size + 1, 1, none⟩ = some (.slice none 0 0) := b4.at_ 1 rfl
    have d2 : w2.cell? ⟨w.heap.size + 1, 2, none⟩ = some (.bool false) := b4.at_ 2 rfl
    have d3 : w2.cell? ⟨w.heap.size + 1, 3, none⟩ = some (.int .i64 0) := b4.at_ 3 rfl
    have d4 : w2.cell? ⟨w.heap.size + 1, 4, none⟩ = some (.int .i64 0) := b4.at_ 4 rfl
    have df0 := b4.fr 0
    have df1 := b4.fr 1
    have df2 := b4.fr 2
    have df3 := b4.fr 3
    have df4 := b4.fr 4
    have oF := Lib.hid (((((o.st (p := ⟨w.heap.size + 1, 0, none⟩) (Nat.le_add_right _ _) (.int .i64 (cap : Int))).st (p := ⟨w.heap.size + 1, 1, none⟩) (Nat.le_add_right _ _) (.slice A F.length c)).st (p := ⟨w.heap.size + 1, 2, none⟩) (Nat.le_add_right _ _) (.bool (!up))).st (p := ⟨w.heap.size + 1, 3, none⟩) (Nat.le_add_right _ _) (.int .i64 (left : Int))).st (p := ⟨w.heap.size + 1, 4, none⟩) (Nat.le_add_right _ _) (.int .i64 keep))
    have bF := Lib.hid (bk5 b4 (.int .i64 (cap : Int)) (.slice A F.length c) (.bool (!up)) (.int .i64 (left : Int)) (.int .i64 keep))
    have HFB := Lib.hid ((HFL.out.old o).far5 b4 (by decide) (.int .i64 (cap : Int)) (.slice A F.length c) (.bool (!up)) (.int .i64 (left : Int)) (.int .i64 keep))
    clear o b4
    clear b2
    go_wp2
    have h1 := oF.out
    have h2 := bF.out
    have h3 := HFB.out
    clear oF bF HFB
    generalize (((((w2.setCell ⟨w.heap.size + 1, 0, none⟩ (.int .i64 (cap : Int))).setCell ⟨w.heap.size + 1, 1, none⟩ (.slice A F.length c)).setCell ⟨w.heap.size + 1, 2, none⟩ (.bool (!up))).setCell ⟨w.heap.size + 1, 3, none⟩ (.int .i64 (left : Int))).setCell ⟨w.heap.size + 1, 4, none⟩ (.int .i64 keep)) = WF at *
    have z0 : WF.cell? ⟨w.heap.size + 1, 0, none⟩ = some (.int .i64 (cap : Int)) := h2.at_ 0 rfl
    have z1 : WF.cell? ⟨w.heap.size + 1, 1, none⟩ = some (.slice A F.length c) := h2.at_ 1 rfl
    have z2 : WF.cell? ⟨w.heap.size + 1, 2, none⟩ = some (.bool (!up)) := h2.at_ 2 rfl
    have z3 : WF.cell? ⟨w.heap.size + 1, 3, none⟩ = some (.int .i64 (left : Int)) := h2.at_ 3 rfl
    have z4 : WF.cell? ⟨w.heap.size + 1, 4, none⟩ = some (.int .i64 keep) := h2.at_ 4 rfl
    refine bodyPost_ret (v := .tuple #[Rv (.slice A F.length c) ⟨cap, F, up, left, keep⟩, .int .i64 E]) (by simp [results, Tryd.results35, go_sem, z0, z1, z2, z3, z4]) rfl ?_
    rw [HX.out]
    exact ⟨_, _, rfl, h3, h1⟩
  obtain rfl : E = 0 := by simpa using he
  clear he
  rcases hi with ⟨hn, rfl⟩ | ⟨k, f, hf, hk, rfl⟩
  · have HX := Lib.hid (show R = (⟨cap, F, up, left, keep⟩, 3) by
      rw [HR.out]; unfold rsync pneed; rw [← HE.out]; simp [hn])
    clear HR HE hn
    have c0 : w2.cell? ⟨w.heap.size, 0, none⟩ = some (.int .i64 (cap : Int)) := b2.at_ 0 rfl
    have c1 : w2.cell? ⟨w.heap.size, 1, none⟩ = some (.slice A F.length c) := b2.at_ 1 rfl
    have c2 : w2.cell? ⟨w.heap.size, 2, none⟩ = some (.bool (!up)) := b2.at_ 2 rfl
    have c3 : w2.cell? ⟨w.heap.size, 3, none⟩ = some (.int .i64 (left : Int)) := b2.at_ 3 rfl
    have c4 : w2.cell? ⟨w.heap.size, 4, none⟩ = some (.int .i64 keep) := b2.at_ 4 rfl
    have d0 : w2.cell? ⟨w.heap.size + 1, 0, none⟩ = some (.int .i64 0) := b4.at_ 0 rfl
    have d1 : w2.cell? ⟨w.heap.size + 1, 1, none⟩ = some (.slice none 0 0) := b4.at_ 1 rfl
    have d2 : w2.cell? ⟨w.heap.size + 1, 2, none⟩ = some (.bool false) := b4.at_ 2 rfl
    have d3 : w2.cell? ⟨w.heap.size + 1, 3, none⟩ = some (.int .i64 0) := b4.at_ 3 rfl
    have d4 : w2.cell? ⟨w.heap.size + 1, 4, none⟩ = some (.int .i64 0) := b4.at_ 4 rfl
    have df0 := b4.fr 0
    have df1 := b4.fr 1
    have df2 := b4.fr 2
    have df3 := b4.fr 3
    have df4 := b4.fr 4
    have oF := Lib.hid (((((o.st (p := ⟨w.heap.size + 1, 0, none⟩) (Nat.le_add_right _ _) (.int .i64 (cap : Int))).st (p := ⟨w.heap.size + 1, 1, none⟩) (Nat.le_add_right _ _) (.slice A F.length c)).st (p := ⟨w.heap.size + 1, 2, none⟩) (Nat.le_add_right _ _) (.bool (!up))).st (p := ⟨w.heap.size + 1, 3, none⟩) (Nat.le_add_right _ _) (.int .i64 (left : Int))).st (p := ⟨w.heap.size + 1, 4, none⟩) (Nat.le_add_right _ _) (.int .i64 keep))
    have bF := Lib.hid (bk5 b4 (.int .i64 (cap : Int)) (.slice A F.length c) (.bool (!up)) (.int .i64 (left : Int)) (.int .i64 keep))
    have HFB := Lib.hid ((HFL.out.old o).far5 b4 (by decide) (.int .i64 (cap : Int)) (.slice A F.length c) (.bool (!up)) (.int .i64 (left : Int)) (.int .i64 keep))
    clear o b4
    clear b2
    go_wp2
    have h1 := oF.out
    have h2 := bF.out
    have h3 := HFB.out
    clear oF bF HFB
    generalize (((((w2.setCell ⟨w.heap.size + 1, 0, none⟩ (.int .i64 (cap : Int))).setCell ⟨w.heap.size + 1, 1, none⟩ (.slice A F.length c)).setCell ⟨w.heap.size + 1, 2, none⟩ (.bool (!up))).setCell ⟨w.heap.size + 1, 3, none⟩ (.int .i64 (left : Int))).setCell ⟨w.heap.size + 1, 4, none⟩ (.int .i64 keep)) = WF at *
    have z0 : WF.cell? ⟨w.heap.size + 1, 0, none⟩ = some (.int .i64 (cap : Int)) := h2.at_ 0 rfl
    have z1 : WF.cell? ⟨w.heap.size + 1, 1, none⟩ = some (.slice A F.length c) := h2.at_ 1 rfl
    have z2 : WF.cell? ⟨w.heap.size + 1, 2, none⟩ = some (.bool (!up)) := h2.at_ 2 rfl
    have z3 : WF.cell? ⟨w.heap.size + 1, 3, none⟩ = some (.int .i64 (left : Int)) := h2.at_ 3 rfl
    have z4 : WF.cell? ⟨w.heap.size + 1, 4, none⟩ = some (.int .i64 keep) := h2.at_ 4 rfl
    refine bodyPost_ret (v := .tuple #[Rv (.slice A F.length c) ⟨cap, F, up, left, keep⟩, .int .i64 3]) (by simp [results, Tryd.results35, go_sem, z0, z1, z2, z3, z4]) rfl ?_
    rw [HX.out]
    exact ⟨_, _, rfl, h3, h1⟩
  have hkI : decide ((k : Int) < 0) = false := by rw [decide_eq_false_iff_not]; omega
  have HPS := Lib.hid (fun g => pset_set (g := g) HN.out hf hk)
  have HK := Lib.hid hk
  have hkl : k < F.length := at_len hk
  have hfm : f.s.length ≤ 1000000 := Nat.le_trans (le_ptot (List.mem_of_getElem? hk)) HFI.out.tot
  have HX := Lib.hid (show R = rgate ⟨cap, F, up, left, keep⟩ false (pset s fast F) by
    rw [HR.out]; unfold rsync pneed; rw [← HE.out]; simp [hf])
  have HFN := Lib.hid (fin_set HFI.out hk (fast f) (Nat.le_refl _) (by have := HFI.out.tot; simp only [fast]; omega))
  clear HR HE hf hk
  have c0 : w2.cell? ⟨w.heap.size, 0, none⟩ = some (.int .i64 (cap : Int)) := b2.at_ 0 rfl
  have c1 : w2.cell? ⟨w.heap.size, 1, none⟩ = some (.slice A F.length c) := b2.at_ 1 rfl
  have c2 : w2.cell? ⟨w.heap.size, 2, none⟩ = some (.bool (!up)) := b2.at_ 2 rfl
  have c3 : w2.cell? ⟨w.heap.size, 3, none⟩ = some (.int .i64 (left : Int)) := b2.at_ 3 rfl
  have c4 : w2.cell? ⟨w.heap.size, 4, none⟩ = some (.int .i64 keep) := b2.at_ 4 rfl
  have oN := old_alloc w2 (.cells #[.int .i64 (cap : Int), .slice A F.length c, .bool (!up), .int .i64 (left : Int), .int .i64 keep] 29)
  have oA := o.al (.cells #[.int .i64 (cap : Int), .slice A F.length c, .bool (!up), .int .i64 (left : Int), .int .i64 keep] 29)
  have bA := b2.old oN
  have bB := b4.old oN
  have bN := new_bk w2 29 #[.int .i64 (cap : Int), .slice A F.length c, .bool (!up), .int .i64 (left : Int), .int .i64 keep]
  have hne : w2.heap.size ≠ w.heap.size := Nat.ne_of_gt b2.lt
  have hne1 : w2.heap.size ≠ w.heap.size + 1 := Nat.ne_of_gt b4.lt
  have hle := o.size
  have hN0 := b2.lt
  have hN1 := b4.lt
  have oB := oA.al (.cells #[] 83)
  have bA2 := bA.old (old_alloc _ (.cells #[] 83))
  have bB2 := bB.old (old_alloc _ (.cells #[] 83))
  have bN2 := bN.old (old_alloc _ (.cells #[] 83))
  have HO := Lib.hid (OwnF.empty (base := w.heap.size) (new_bk' (w2.alloc (.cells #[.int .i64 (cap : Int), .slice A F.length c, .bool (!up), .int .i64 (left : Int), .int .i64 keep] 29)) 83 #[] (w2.heap.size + 1) (by simp)) (by omega))
  have HFS := Lib.hid (HFL.out.1.old oB)
  have hlen : ([] : List Pf).length * 40 + F.length * 40 ≤ 140737488355328 := by have := HFI.out.len; simp; omega
  have HB := Lib.hid oB
  have a0 : ((w2.alloc (.cells #[.int .i64 (cap : Int), .slice A F.length c, .bool (!up), .int .i64 (left : Int), .int .i64 keep] 29)).alloc (.cells #[] 83)).cell? ⟨w.heap.size, 0, none⟩ = some (.int .i64 (cap : Int)) := bA2.at_ 0 rfl
  have a1 : ((w2.alloc (.cells #[.int .i64 (cap : Int), .slice A F.length c, .bool (!up), .int .i64 (left : Int), .int .i64 keep] 29)).alloc (.cells #[] 83)).cell? ⟨w.heap.size, 1, none⟩ = some (.slice A F.length c) := bA2.at_ 1 rfl
  have a2 : ((w2.alloc (.cells #[.int .i64 (cap : Int), .slice A F.length c, .bool (!up), .int .i64 (left : Int), .int .i64 keep] 29)).alloc (.cells #[] 83)).cell? ⟨w.heap.size, 2, none⟩ = some (.bool (!up)) := bA2.at_ 2 rfl
  have a3 : ((w2.alloc (.cells #[.int .i64 (cap : Int), .slice A F.length c, .bool (!up), .int .i64 (left : Int), .int .i64 keep] 29)).alloc (.cells #[] 83)).cell? ⟨w.heap.size, 3, none⟩ = some (.int .i64 (left : Int)) := bA2.at_ 3 rfl
  have a4 : ((w2.alloc (.cells #[.int .i64 (cap : Int), .slice A F.length c, .bool (!up), .int .i64 (left : Int), .int .i64 keep] 29)).alloc (.cells #[] 83)).cell? ⟨w.heap.size, 4, none⟩ = some (.int .i64 keep) := bA2.at_ 4 rfl
  clear oN oA bA bB bN oB
  go_wp2_with (at_builtin; refine wp_fls rfl (.tmp 23) (.tmp 25) rfl (W0 := w) HB.out _ [] F rfl HO.out _ rfl HFS.out (by rw [Nat.add_mul]; exact hlen) ?_; intro v8 w8 n8 o8 g8 f8; refine Hid.out ?_)
  rw [List.nil_append] at n8
  obtain ⟨A8, c8, rfl, hc8⟩ := n8.fls.form
  have b2 := bA2.grown g8 (show some w.heap.size ≠ some (w2.heap.size + 1) by simp; omega)
  have b4 := bB2.grown g8 (show some (w.heap.size + 1) ≠ some (w2.heap.size + 1) by simp; omega)
  have b6 := bN2.grown g8 (show some w2.heap.size ≠ some (w2.heap.size + 1) by simp)
  clear g8 f8 bA2 bB2 bN2 HO HFS HB a0 a1 a2 a3 a4 c0 c1 c2 c3 c4
  refine Lib.hid ?_
  have o4 := o8.st (p := ⟨w2.heap.size, 1, none⟩) hle (.slice A8 F.length c8)
  have hb2 := b2.far (p := ⟨w2.heap.size, 1, none⟩) (Ne.symm hne) (.slice A8 F.length c8)
  have hb4 := b4.far (p := ⟨w2.heap.size, 1, none⟩) (Ne.symm hne1) (.slice A8 F.length c8)
  have hb5 := b6.set_ 1 (.slice A8 F.length c8)
  have nW := n8.setf (n8.ne b6 (by decide)) 1 (.slice A8 F.length c8)
  have n0 : w8.cell? ⟨w2.heap.size, 0, none⟩ = some (.int .i64 (cap : Int)) := b6.at_ 0 rfl
  have n1 : w8.cell? ⟨w2.heap.size, 1, none⟩ = some (.slice A F.length c) := b6.at_ 1 rfl
  have n2 : w8.cell? ⟨w2.heap.size, 2, none⟩ = some (.bool (!up)) := b6.at_ 2 rfl
  have n3 : w8.cell? ⟨w2.heap.size, 3, none⟩ = some (.int .i64 (left : Int)) := b6.at_ 3 rfl
  have n4 : w8.cell? ⟨w2.heap.size, 4, none⟩ = some (.int .i64 keep) := b6.at_ 4 rfl
  have nf0 := b6.fr 0
  have nf1 := b6.fr 1
  have nf2 := b6.fr 2
  have nf3 := b6.fr 3
  have nf4 := b6.fr 4
  have HH := Lib.hid (show _ ∧ _ ∧ _ ∧ _ ∧ _ from ⟨o4, hb2, hb4, hb5, nW⟩)
  clear o4 hb2 hb4 hb5 nW n8 o8 b2 b4 b6 hc8
  go_upto_region 9 with (fail)
  obtain ⟨o4, b2, b4, b5, nW⟩ := HH.out
  clear HH n0 n1 n2 n3 n4 nf0 nf1 nf2 nf3 nf4
  generalize (w8.setCell ⟨w2.heap.size, 1, none⟩ (.slice A8 F.length c8)) = W4 at *
  obtain ⟨gr, rr, rfl, -, hg, hr0, hbk, hr1, hr2⟩ := nW.form (by omega)
  obtain ⟨a0, a1, a2⟩ := bkF_at hbk HK.out
  obtain ⟨xn, xs, xk⟩ := f
  simp only at a0 a1 a2 hfm
  have fr1 := hbk.fr (k * 3 + 2)
  have q1 : W4.cell? ⟨w2.heap.size, 1, none⟩ = some (.slice (some ⟨gr, 0, none⟩) F.length c8) := b5.at_ 1 rfl
  have hkc : k < c8 := by omega
  have hbk1 : Bk W4 gr 83 _ := hbk
  have hPS : Flt (W4.setCell ⟨gr, k * 3 + 2, none⟩ (.int .i64 (xs.length : Int))).drew (.slice (some ⟨gr, 0, none⟩) F.length c8) (F.set k (fast ⟨xn, xs, xk⟩)) := (bkF_putn hbk1 HK.out HFI.out.len hr1 hr0 hr2 xs.length).old (Old.re _).dr
  rw [← HPS.out] at hPS
  have HF5 := Lib.hid hPS
  clear hPS
  have hg0 : w.heap.size ≠ gr := Bk.ne b2 hbk (by decide)
  have hg1 : w.heap.size + 1 ≠ gr := Bk.ne b4 hbk (by decide)
  have hg2 : w2.heap.size ≠ gr := Bk.ne b5 hbk (by decide)
  have o5 := (o4.st (p := ⟨gr, k * 3 + 2, none⟩) hg (.int .i64 (xs.length : Int))).dr
  have hb2 := b2
  have hb4 := b4
  have hb5 := b5
  have hln := pset_len F s fast
  rw [← HPS.out] at HFN
  clear HPS HN
  generalize pset s fast F = M at *
  have ob2 : Bk (W4.setCell ⟨gr, k * 3 + 2, none⟩ (.int .i64 (xs.length : Int))).drew _ _ _ := hb2.far (p := ⟨gr, k * 3 + 2, none⟩) hg0 (.int .i64 (xs.length : Int))
  have ob4 : Bk (W4.setCell ⟨gr, k * 3 + 2, none⟩ (.int .i64 (xs.length : Int))).drew _ _ _ := hb4.far (p := ⟨gr, k * 3 + 2, none⟩) hg1 (.int .i64 (xs.length : Int))
  have ob5 : Bk (W4.setCell ⟨gr, k * 3 + 2, none⟩ (.int .i64 (xs.length : Int))).drew _ _ _ := hb5.far (p := ⟨gr, k * 3 + 2, none⟩) hg2 (.int .i64 (xs.length : Int))
  have HFA := HFL.out.old o5
  have HH := Lib.hid (show _ ∧ _ ∧ _ ∧ _ ∧ _ ∧ _ from ⟨o5, ob2, ob4, ob5, HF5.out, HFA⟩)
  clear o4 o5 b2 b4 b5 nW hbk hbk1 hb2 hb4 hb5 ob2 ob4 ob5 HFA HF5 hr0 hr1 hr2 hg0 hg1 hg2
  have HLN := Lib.hid hln
  clear hln
  go_still_tail 12, (by kernel_rfl)
  go_upto_region 10 with (fail)
  obtain ⟨o5, b2, b4, b5, hM, hA⟩ := HH.out
  clear HH
  generalize (W4.setCell ⟨gr, k * 3 + 2, none⟩ (.int .i64 (xs.length : Int))).drew = W5 at *
  have p0 : W5.cell? ⟨w.heap.size, 0, none⟩ = some (.int .i64 (cap : Int)) := b2.at_ 0 rfl
  have p1 : W5.cell? ⟨w.heap.size, 1, none⟩ = some (.slice A F.length c) := b2.at_ 1 rfl
  have p2 : W5.cell? ⟨w.heap.size, 2, none⟩ = some (.bool (!up)) := b2.at_ 2 rfl
  have p3 : W5.cell? ⟨w.heap.size, 3, none⟩ = some (.int .i64 (left : Int)) := b2.at_ 3 rfl
  have p4 : W5.cell? ⟨w.heap.size, 4, none⟩ = some (.int .i64 keep) := b2.at_ 4 rfl
  have u0 : W5.cell? ⟨w2.heap.size, 0, none⟩ = some (.int .i64 (cap : Int)) := b5.at_ 0 rfl
  have u1 : W5.cell? ⟨w2.heap.size, 1, none⟩ = some (.slice (some ⟨gr, 0, none⟩) F.length c8) := b5.at_ 1 rfl
  have u2 : W5.cell? ⟨w2.heap.size, 2, none⟩ = some (.bool (!up)) := b5.at_ 2 rfl
  have u3 : W5.cell? ⟨w2.heap.size, 3, none⟩ = some (.int .i64 (left : Int)) := b5.at_ 3 rfl
  have u4 : W5.cell? ⟨w2.heap.size, 4, none⟩ = some (.int .i64 keep) := b5.at_ 4 rfl
  have HDN := rdone_any A (some ⟨gr, 0, none⟩) c c8 ⟨cap, F, up, left, keep⟩ M false HFI.out HFN.out hl W5 hA (by rw [HLN.out]; exact hM)
  rw [HLN.out] at HDN
  have HDN := Lib.hid HDN
  have o4 := Lib.hid o5
  clear b2 b5 hM hA o5
  go_wp2_with fail
  refine HDN.out.mono ?_
  clear HDN
  rintro e w5 ⟨A6, c6, rfl, hf6, o6⟩
  have o := o4.out.tr o6
  have b4 := b4.old o6
  rw [← HX.out] at hf6
  rw [← HX.out]
  obtain ⟨⟨cap6, F6, up6, left6, keep6⟩, e6⟩ := R
  simp only at hf6 ⊢
  have HFL := Lib.hid hf6
  clear hf6 o4 o6
  have d0 : w5.cell? ⟨w.heap.size + 1, 0, none⟩ = some (.int .i64 0) := b4.at_ 0 rfl
  have d1 : w5.cell? ⟨w.heap.size + 1, 1, none⟩ = some (.slice none 0 0) := b4.at_ 1 rfl
  have d2 : w5.cell? ⟨w.heap.size + 1, 2, none⟩ = some (.bool false) := b4.at_ 2 rfl
  have d3 : w5.cell? ⟨w.heap.size + 1, 3, none⟩ = some (.int .i64 0) := b4.at_ 3 rfl
  have d4 : w5.cell? ⟨w.heap.size + 1, 4, none⟩ = some (.int .i64 0) := b4.at_ 4 rfl
  have df0 := b4.fr 0
  have df1 := b4.fr 1
  have df2 := b4.fr 2
  have df3 := b4.fr 3
  have df4 := b4.fr 4
  have oF := Lib.hid (((((o.st (p := ⟨w.heap.size + 1, 0, none⟩) (Nat.le_add_right _ _) (.int .i64 (cap6 : Int))).st (p := ⟨w.heap.size + 1, 1, none⟩) (Nat.le_add_right _ _) (.slice A6 F6.length c6)).st (p := ⟨w.heap.size + 1, 2, none⟩) (Nat.le_add_right _ _) (.bool (!up6))).st (p := ⟨w.heap.size + 1, 3, none⟩) (Nat.le_add_right _ _) (.int .i64 (left6 : Int))).st (p := ⟨w.heap.size + 1, 4, none⟩) (Nat.le_add_right _ _) (.int .i64 keep6))
  have bF := Lib.hid (bk5 b4 (.int .i64 (cap6 : Int)) (.slice A6 F6.length c6) (.bool (!up6)) (.int .i64 (left6 : Int)) (.int .i64 keep6))
  have HFB := Lib.hid (HFL.out.far5 b4 (by decide) (.int .i64 (cap6 : Int)) (.slice A6 F6.length c6) (.bool (!up6)) (.int .i64 (left6 : Int)) (.int .i64 keep6))
  clear o b4
  go_wp2
  have h1 := oF.out
  have h2 := bF.out
  have h3 := HFB.out
  clear oF bF HFB
  generalize (((((w5.setCell ⟨w.heap.size + 1, 0, none⟩ (.int .i64 (cap6 : Int))).setCell ⟨w.heap.size + 1, 1, none⟩ (.slice A6 F6.length c6)).setCell ⟨w.heap.size + 1, 2, none⟩ (.bool (!up6))).setCell ⟨w.heap.size + 1, 3, none⟩ (.int .i64 (left6 : Int))).setCell ⟨w.heap.size + 1, 4, none⟩ (.int .i64 keep6)) = WF at *
  have z0 : WF.cell? ⟨w.heap.size + 1, 0, none⟩ = some (.int .i64 (cap6 : Int)) := h2.at_ 0 rfl
  have z1 : WF.cell? ⟨w.heap.size + 1, 1, none⟩ = some (.slice A6 F6.length c6) := h2.at_ 1 rfl
  have z2 : WF.cell? ⟨w.heap.size + 1, 2, none⟩ = some (.bool (!up6)) := h2.at_ 2 rfl
  have z3 : WF.cell? ⟨w.heap.size + 1, 3, none⟩ = some (.int .i64 (left6 : Int)) := h2.at_ 3 rfl
  have z4 : WF.cell? ⟨w.heap.size + 1, 4, none⟩ = some (.int .i64 keep6) := h2.at_ 4 rfl
  refine bodyPost_ret (v := .tuple #[Rv (.slice A6 F6.length c6) ⟨cap6, F6, up6, left6, keep6⟩, .int .i64 e6]) (by simp [results, Tryd.results35, go_sem, z0, z1, z2, z3, z4]) rfl ?_
  exact ⟨_, _, rfl, h3, h1⟩
end Go.Proofs.YtilimfbjkgeciaaDoor
