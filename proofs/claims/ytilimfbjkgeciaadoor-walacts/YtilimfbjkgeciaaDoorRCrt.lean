/-
  Create of the document's own disk. Conditions: the files lie in memory; no name is greater than the new one.
-/
import Derived.Test.YtilimfbjkgeciaaDoorROps
namespace Go.Proofs.YtilimfbjkgeciaaDoor
set_option maxRecDepth 100000
open Go.RowKit

theorem fin_add {L : List Pf} (h : Fin L) (hl : L.length < 200) (s : List UInt8) : Fin (L ++ [⟨s, [], 0⟩]) :=
  ⟨by simp; omega, by rw [ptot_snoc']; simpa using h.tot, fun f hf => by
    rcases List.mem_append.1 hf with h1 | h1
    · exact h.syn f h1
    · simp at h1; subst h1; exact Nat.zero_le _⟩
set_option maxHeartbeats 8000000 in
theorem rcreate_any (A : Option Addr) (c : Nat) (r : Pd) (s : List UInt8) (hF : Fin r.files) (hl : r.left ≤ 9223372036854775807) (hT : pfnd r.files s = none → Top r.files s) (w : World) (h : Flt w (.slice A r.files.length c) r.files) :
    Calls Tryd.prog 64 #[Rv (.slice A r.files.length c) r, .string (B s)] w (PostR w (rcreate r s)) := by
  obtain ⟨cap, F, up, left, keep⟩ := r
  simp only at hF hl h hT ⊢
  obtain ⟨R, hR⟩ : ∃ R, R = rcreate ⟨cap, F, up, left, keep⟩ s := ⟨_, rfl⟩
  rw [← hR]
  have o0 := (old_alloc w (.cells #[.int .i64 (cap : Int), .slice A F.length c, .bool (!up), .int .i64 (left : Int), .int .i64 keep] 29)).al (.cells zeroDsk 29)
  have b2 := (new_bk w 29 #[.int .i64 (cap : Int), .slice A F.length c, .bool (!up), .int .i64 (left : Int), .int .i64 keep]).old (old_alloc _ (.cells zeroDsk 29))
  have b4 := new_bk' (w.alloc (.cells #[.int .i64 (cap : Int), .slice A F.length c, .bool (!up), .int .i64 (left : Int), .int .i64 keep] 29)) 29 zeroDsk (w.heap.size + 1) (by simp)
  have H := Lib.hid (show _ ∧ _ ∧ _ from ⟨o0, b2, b4⟩)
  have HW := Lib.hid (fun w1 => rwrong_any (.slice A F.length c) ⟨cap, F, up, left, keep⟩ s w1)
  have HFL := Lib.hid h
  have HFI := Lib.hid hF
  have HR := Lib.hid hR
  clear o0 b2 b4 h hR
  have HT := Lib.hid hT
  clear hT
  by_cases he : perr ⟨cap, F, up, left, keep⟩ s ≠ 0
  · have HX := Lib.hid (show R = (⟨cap, F, up, left, keep⟩, perr ⟨cap, F, up, left, keep⟩ s) by rw [HR.out]; unfold rcreate; rw [if_pos he])
    generalize perr ⟨cap, F, up, left, keep⟩ s = E at *
    have hb : (E != 0) = true := by simpa using he
    clear he HR
    go_enter Tryd.func64, Tryd.ntmps64
    go_wp2_with fail
    refine (HW.out _).mono ?_
    rintro e w1 ⟨rfl, o1⟩
    obtain ⟨o0, b2, b4⟩ := H.out
    have o := o0.tr o1
    have b2 := b2.old o1
    have b4 := b4.old o1
    clear o0 o1 H
    have c0 : w1.cell? ⟨w.heap.size, 0, none⟩ = some (.int .i64 (cap : Int)) := b2.at_ 0 rfl
    have c1 : w1.cell? ⟨w.heap.size, 1, none⟩ = some (.slice A F.length c) := b2.at_ 1 rfl
    have c2 : w1.cell? ⟨w.heap.size, 2, none⟩ = some (.bool (!up)) := b2.at_ 2 rfl
    have c3 : w1.cell? ⟨w.heap.size, 3, none⟩ = some (.int .i64 (left : Int)) := b2.at_ 3 rfl
    have c4 : w1.cell? ⟨w.heap.size, 4, none⟩ = some (.int .i64 keep) := b2.at_ 4 rfl
    have d0 : w1.cell? ⟨w.heap.size + 1, 0, none⟩ = some (.int .i64 0) := b4.at_ 0 rfl
    have d1 : w1.cell? ⟨w.heap.size + 1, 1, none⟩ = some (.slice none 0 0) := b4.at_ 1 rfl
    have d2 : w1.cell? ⟨w.heap.size + 1, 2, none⟩ = some (.bool false) := b4.at_ 2 rfl
    have d3 : w1.cell? ⟨w.heap.size + 1, 3, none⟩ = some (.int .i64 0) := b4.at_ 3 rfl
    have d4 : w1.cell? ⟨w.heap.size + 1, 4, none⟩ = some (.int .i64 0) := b4.at_ 4 rfl
    have df0 := b4.fr 0
    have df1 := b4.fr 1
    have df2 := b4.fr 2
    have df3 := b4.fr 3
    have df4 := b4.fr 4
    have oF := Lib.hid (((((o.st (p := ⟨w.heap.size + 1, 0, none⟩) (Nat.le_add_right _ _) (.int .i64 (cap : Int))).st (p := ⟨w.heap.size + 1, 1, none⟩) (Nat.le_add_right _ _) (.slice A F.length c)).st (p := ⟨w.heap.size + 1, 2, none⟩) (Nat.le_add_right _ _) (.bool (!up))).st (p := ⟨w.heap.size + 1, 3, none⟩) (Nat.le_add_right _ _) (.int .i64 (left : Int))).st (p := ⟨w.heap.size + 1, 4, none⟩) (Nat.le_add_right _ _) (.int .i64 keep))
    have bF := Lib.hid (bk5 b4 (.int .i64 (cap : Int)) (.slice A F.length c) (.bool (!up)) (.int .i64 (left : Int)) (.int .i64 keep))
    have HFB := Lib.hid ((HFL.out.old o).far5 b4 (by decide) (.int .i64 (cap : Int)) (.slice A F.length c) (.bool (!up)) (.int .i64 (left : Int)) (.int .i64 keep))
    clear o b4
    clear b2
    go_wp2
    have h1 := oF.out
    have h2 := bF.out
    have h3 := HFB.out
    clear oF bF HFB
    generalize (((((w1.setCell ⟨w.heap.size + 1, 0, none⟩ (.int .i64 (cap : Int))).setCell ⟨w.heap.size + 1, 1, none⟩ (.slice A F.length c)).setCell ⟨w.heap.size + 1, 2, none⟩ (.bool (!up))).setCell ⟨w.heap.size + 1, 3, none⟩ (.int .i64 (left : Int))).setCell ⟨w.heap.size + 1, 4, none⟩ (.int .i64 keep)) = WF at *
    have z0 : WF.cell? ⟨w.heap.size + 1, 0, none⟩ = some (.int .i64 (cap : Int)) := h2.at_ 0 rfl
    have z1 : WF.cell? ⟨w.heap.size + 1, 1, none⟩ = some (.slice A F.length c) := h2.at_ 1 rfl
    have z2 : WF.cell? ⟨w.heap.size + 1, 2, none⟩ = some (.bool (!up)) := h2.at_ 2 rfl
    have z3 : WF.cell? ⟨w.heap.size + 1, 3, none⟩ = some (.int .i64 (left : Int)) := h2.at_ 3 rfl
    have z4 : WF.cell? ⟨w.heap.size + 1, 4, none⟩ = some (.int .i64 keep) := h2.at_ 4 rfl
    refine bodyPost_ret (v := .tuple #[Rv (.slice A F.length c) ⟨cap, F, up, left, keep⟩, .int .i64 E]) (by simp [results, Tryd.results64, go_sem, z0, z1, z2, z3, z4]) rfl ?_
    rw [HX.out]
    exact ⟨_, _, rfl, h3, h1⟩
  have he0 : perr ⟨cap, F, up, left, keep⟩ s = 0 := by simpa using he
  rw [he0] at HW
  go_enter Tryd.func64, Tryd.ntmps64
  go_wp2_with fail
  refine (HW.out _).mono ?_
  rintro e w1 ⟨rfl, o1⟩
  obtain ⟨o0, b2, b4⟩ := H.out
  have o := o0.tr o1
  have b2 := b2.old o1
  have b4 := b4.old o1
  clear o0 o1 H
  have c0 : w1.cell? ⟨w.heap.size, 0, none⟩ = some (.int .i64 (cap : Int)) := b2.at_ 0 rfl
  have c1 : w1.cell? ⟨w.heap.size, 1, none⟩ = some (.slice A F.length c) := b2.at_ 1 rfl
  have c2 : w1.cell? ⟨w.heap.size, 2, none⟩ = some (.bool (!up)) := b2.at_ 2 rfl
  have c3 : w1.cell? ⟨w.heap.size, 3, none⟩ = some (.int .i64 (left : Int)) := b2.at_ 3 rfl
  have c4 : w1.cell? ⟨w.heap.size, 4, none⟩ = some (.int .i64 keep) := b2.at_ 4 rfl
  have HFD := Lib.hid (rfind_any A c ⟨cap, F, up, left, keep⟩ s HFI.out.len w1 (HFL.out.1.old o))
  go_wp2_with fail
  refine HFD.out.mono ?_
  rintro e w2 ⟨i, rfl, hi, o1⟩
  have o := o.tr o1
  have b2 := b2.old o1
  have b4 := b4.old o1
  clear HFD o1 c0 c1 c2 c3 c4
  rcases hi with ⟨hn, rfl⟩ | ⟨k, f, hf, hk, rfl⟩
  · by_cases hL : 200 ≤ F.length
    · have HX := Lib.hid (show R = (⟨cap, F, up, left, keep⟩, 2) by
        rw [HR.out]; unfold rcreate; rw [he0]; simp [hn, hL])
      have hLI : decide ((200 : Int) ≤ (F.length : Int)) = true := by rw [decide_eq_true_iff]; omega
      clear HR he he0 hn hL
      have c0 : w2.cell? ⟨w.heap.size, 0, none⟩ = some (.int .i64 (cap : Int)) := b2.at_ 0 rfl
      have c1 : w2.cell? ⟨w.heap.size, 1, none⟩ = some (.slice A F.length c) := b2.at_ 1 rfl
      have c2 : w2.cell? ⟨w.heap.size, 2, none⟩ = some (.bool (!up)) := b2.at_ 2 rfl
      have c3 : w2.cell? ⟨w.heap.size, 3, none⟩ = some (.int .i64 (left : Int)) := b2.at_ 3 rfl
      have c4 : w2.cell? ⟨w.heap.size, 4, none⟩ = some (.int .i64 keep) := b2.at_ 4 rfl
      have d0 : w2.cell? ⟨w.heap.size + 1, 0, none⟩ = some (.int .i64 0) := b4.at_ 0 rfl
      have d1 : w2.cell? ⟨w.heap.size + 1, 1, none⟩ = some (.slice none 0 0) := b4.at_ 1 rfl
      have d2 : w2.cell? ⟨w.heap.size + 1, 2, none⟩ = some (.bool false) := b4.at_ 2 rfl
      have d3 : w2.cell? ⟨w.heap.size + 1, 3, none⟩ = some (.int .i64 0) := b4.at_ 3 rfl
      have d4 : w2.cell? ⟨w.heap.size + 1, 4, none⟩ = some (.int .i64 0) := b4.at_ 4 rfl
      have df0 := b4.fr 0
      have df1 := b4.fr 1
      have df2 := b4.fr 2
      have df3 := b4.fr 3
      have df4 := b4.fr 4
      have oF := Lib.hid (((((o.st (p := ⟨w.heap.size + 1, 0, none⟩) (Nat.le_add_right _ _) (.int .i64 (cap : Int))).st (p := ⟨w.heap.size + 1, 1, none⟩) (Nat.le_add_right _ _) (.slice A F.length c)).st (p := ⟨w.heap.size + 1, 2, none⟩) (Nat.le_add_right _ _) (.bool (!up))).st (p := ⟨w.heap.size + 1, 3, none⟩) (Nat.le_add_right _ _) (.int .i64 (left : Int))).st (p := ⟨w.heap.size + 1, 4, none⟩) (Nat.le_add_right _ _) (.int .i64 keep))
      have bF := Lib.hid (bk5 b4 (.int .i64 (cap : Int)) (.slice A F.length c) (.bool (!up)) (.int .i64 (left : Int)) (.int .i64 keep))
      have HFB := Lib.hid ((HFL.out.old o).far5 b4 (by decide) (.int .i64 (cap : Int)) (.slice A F.length c) (.bool (!up)) (.int .i64 (left : Int)) (.int .i64 keep))
      clear o b4
      clear b2
      go_wp2
      have h1 := oF.out
      have h2 := bF.out
      have h3 := HFB.out
      clear oF bF HFB
      generalize (((((w2.setCell ⟨w.heap.size + 1, 0, none⟩ (.int .i64 (cap : Int))).setCell ⟨w.heap.size + 1, 1, none⟩ (.slice A F.length c)).setCell ⟨w.heap.size + 1, 2, none⟩ (.bool (!up))).setCell ⟨w.heap.size + 1, 3, none⟩ (.int .i64 (left : Int))).setCell ⟨w.heap.size + 1, 4, none⟩ (.int .i64 keep)) = WF at *
      have z0 : WF.cell? ⟨w.heap.size + 1, 0, none⟩ = some (.int .i64 (cap : Int)) := h2.at_ 0 rfl
      have z1 : WF.cell? ⟨w.heap.size + 1, 1, none⟩ = some (.slice A F.length c) := h2.at_ 1 rfl
      have z2 : WF.cell? ⟨w.heap.size + 1, 2, none⟩ = some (.bool (!up)) := h2.at_ 2 rfl
      have z3 : WF.cell? ⟨w.heap.size + 1, 3, none⟩ = some (.int .i64 (left : Int)) := h2.at_ 3 rfl
      have z4 : WF.cell? ⟨w.heap.size + 1, 4, none⟩ = some (.int .i64 keep) := h2.at_ 4 rfl
      refine bodyPost_ret (v := .tuple #[Rv (.slice A F.length c) ⟨cap, F, up, left, keep⟩, .int .i64 2]) (by simp [results, Tryd.results64, go_sem, z0, z1, z2, z3, z4]) rfl ?_
      rw [HX.out]
      exact ⟨_, _, rfl, h3, h1⟩
    · have HX := Lib.hid (show R = rgate ⟨cap, F, up, left, keep⟩ false (F ++ [⟨s, [], 0⟩]) by
        rw [HR.out]; unfold rcreate; rw [he0]; simp [hn, hL])
      have hLI : decide ((200 : Int) ≤ (F.length : Int)) = false := by rw [decide_eq_false_iff_not]; omega
      have HTT := Lib.hid (HT.out hn)
      have HFN := Lib.hid (fin_add HFI.out (by omega) s)
      clear HR he he0 hn hL HT
      have c0 : w2.cell? ⟨w.heap.size, 0, none⟩ = some (.int .i64 (cap : Int)) := b2.at_ 0 rfl
      have c1 : w2.cell? ⟨w.heap.size, 1, none⟩ = some (.slice A F.length c) := b2.at_ 1 rfl
      have c2 : w2.cell? ⟨w.heap.size, 2, none⟩ = some (.bool (!up)) := b2.at_ 2 rfl
      have c3 : w2.cell? ⟨w.heap.size, 3, none⟩ = some (.int .i64 (left : Int)) := b2.at_ 3 rfl
      have c4 : w2.cell? ⟨w.heap.size, 4, none⟩ = some (.int .i64 keep) := b2.at_ 4 rfl
      have oN := old_alloc w2 (.cells #[.int .i64 (cap : Int), .slice A F.length c, .bool (!up), .int .i64 (left : Int), .int .i64 keep] 29)
      have oA := o.al (.cells #[.int .i64 (cap : Int), .slice A F.length c, .bool (!up), .int .i64 (left : Int), .int .i64 keep] 29)
      have bA := b2.old oN
      have bB := b4.old oN
      have bN := new_bk w2 29 #[.int .i64 (cap : Int), .slice A F.length c, .bool (!up), .int .i64 (left : Int), .int .i64 keep]
      have hne : w2.heap.size ≠ w.heap.size := Nat.ne_of_gt b2.lt
      have hne1 : w2.heap.size ≠ w.heap.size + 1 := Nat.ne_of_gt b4.lt
      have hle := o.size
      have HWO := Lib.hid (rwith_any A c F ⟨s, [], 0⟩ HFI.out.len HTT.out _ (HFL.out.old oA))
      have a0 : (w2.alloc (.cells #[.int .i64 (cap : Int), .slice A F.length c, .bool (!up), .int .i64 (left : Int), .int .i64 keep] 29)).cell? ⟨w.heap.size, 0, none⟩ = some (.int .i64 (cap : Int)) := bA.at_ 0 rfl
      have a1 : (w2.alloc (.cells #[.int .i64 (cap : Int), .slice A F.length c, .bool (!up), .int .i64 (left : Int), .int .i64 keep] 29)).cell? ⟨w.heap.size, 1, none⟩ = some (.slice A F.length c) := bA.at_ 1 rfl
      have a2 : (w2.alloc (.cells #[.int .i64 (cap : Int), .slice A F.length c, .bool (!up), .int .i64 (left : Int), .int .i64 keep] 29)).cell? ⟨w.heap.size, 2, none⟩ = some (.bool (!up)) := bA.at_ 2 rfl
      have a3 : (w2.alloc (.cells #[.int .i64 (cap : Int), .slice A F.length c, .bool (!up), .int .i64 (left : Int), .int .i64 keep] 29)).cell? ⟨w.heap.size, 3, none⟩ = some (.int .i64 (left : Int)) := bA.at_ 3 rfl
      have a4 : (w2.alloc (.cells #[.int .i64 (cap : Int), .slice A F.length c, .bool (!up), .int .i64 (left : Int), .int .i64 keep] 29)).cell? ⟨w.heap.size, 4, none⟩ = some (.int .i64 keep) := bA.at_ 4 rfl
      go_wp2_with fail
      refine HWO.out.mono ?_
      rintro e w3 ⟨A1, c1, rfl, hf3, o3⟩
      clear HWO
      generalize F ++ [⟨s, [], 0⟩] = M at *
      have o4 := Lib.hid ((oA.tr o3).st (p := ⟨w2.heap.size, 1, none⟩) hle (.slice A1 M.length c1))
      have b2 := ((bA.old o3).far (p := ⟨w2.heap.size, 1, none⟩) (Ne.symm hne) (.slice A1 M.length c1))
      have b4 := ((bB.old o3).far (p := ⟨w2.heap.size, 1, none⟩) (Ne.symm hne1) (.slice A1 M.length c1))
      have b5 := (bN.old o3).set_ 1 (.slice A1 M.length c1)
      have b6 := bN.old o3
      have hA := Lib.hid ((HFL.out.old (oA.tr o3)).far b6 (by decide) 1 (.slice A1 M.length c1))
      have hB := Lib.hid (hf3.far b6 (by decide) 1 (.slice A1 M.length c1))
      have n0 : w3.cell? ⟨w2.heap.size, 0, none⟩ = some (.int .i64 (cap : Int)) := b6.at_ 0 rfl
      have n1 : w3.cell? ⟨w2.heap.size, 1, none⟩ = some (.slice A F.length c) := b6.at_ 1 rfl
      have n2 : w3.cell? ⟨w2.heap.size, 2, none⟩ = some (.bool (!up)) := b6.at_ 2 rfl
      have n3 : w3.cell? ⟨w2.heap.size, 3, none⟩ = some (.int .i64 (left : Int)) := b6.at_ 3 rfl
      have n4 : w3.cell? ⟨w2.heap.size, 4, none⟩ = some (.int .i64 keep) := b6.at_ 4 rfl
      have nf0 := b6.fr 0
      have nf1 := b6.fr 1
      have nf2 := b6.fr 2
      have nf3 := b6.fr 3
      have nf4 := b6.fr 4
      clear b6
      go_upto_region 10 with (fail)
      generalize (w3.setCell ⟨w2.heap.size, 1, none⟩ (.slice A1 M.length c1)) = W4 at *
      have p0 : W4.cell? ⟨w.heap.size, 0, none⟩ = some (.int .i64 (cap : Int)) := b2.at_ 0 rfl
      have p1 : W4.cell? ⟨w.heap.size, 1, none⟩ = some (.slice A F.length c) := b2.at_ 1 rfl
      have p2 : W4.cell? ⟨w.heap.size, 2, none⟩ = some (.bool (!up)) := b2.at_ 2 rfl
      have p3 : W4.cell? ⟨w.heap.size, 3, none⟩ = some (.int .i64 (left : Int)) := b2.at_ 3 rfl
      have p4 : W4.cell? ⟨w.heap.size, 4, none⟩ = some (.int .i64 keep) := b2.at_ 4 rfl
      have q0 : W4.cell? ⟨w2.heap.size, 0, none⟩ = some (.int .i64 (cap : Int)) := b5.at_ 0 rfl
      have q1 : W4.cell? ⟨w2.heap.size, 1, none⟩ = some (.slice A1 M.length c1) := b5.at_ 1 rfl
      have q2 : W4.cell? ⟨w2.heap.size, 2, none⟩ = some (.bool (!up)) := b5.at_ 2 rfl
      have q3 : W4.cell? ⟨w2.heap.size, 3, none⟩ = some (.int .i64 (left : Int)) := b5.at_ 3 rfl
      have q4 : W4.cell? ⟨w2.heap.size, 4, none⟩ = some (.int .i64 keep) := b5.at_ 4 rfl
      have HDN := Lib.hid (rdone_any A A1 c c1 ⟨cap, F, up, left, keep⟩ M false HFI.out (HFN.out) hl W4 hA.out hB.out)
      clear b2 b5 hA hB
      go_wp2_with fail
      refine HDN.out.mono ?_
      clear HDN
      rintro e w5 ⟨A6, c6, rfl, hf6, o6⟩
      have o := o4.out.tr o6
      have b4 := b4.old o6
      rw [← HX.out] at hf6
      rw [← HX.out]
      obtain ⟨⟨cap6, F6, up6, left6, keep6⟩, e6⟩ := R
      simp only at hf6 ⊢
      have HFL := Lib.hid hf6
      clear hf6 o4 o6
      have d0 : w5.cell? ⟨w.heap.size + 1, 0, none⟩ = some (.int .i64 0) := b4.at_ 0 rfl
      have d1 : w5.cell? ⟨w.heap.size + 1, 1, none⟩ = some (.slice none 0 0) := b4.at_ 1 rfl
      have d2 : w5.cell? ⟨w.heap.size + 1, 2, none⟩ = some (.bool false) := b4.at_ 2 rfl
      have d3 : w5.cell? ⟨w.heap.size + 1, 3, none⟩ = some (.int .i64 0) := b4.at_ 3 rfl
      have d4 : w5.cell? ⟨w.heap.size + 1, 4, none⟩ = some (.int .i64 0) := b4.at_ 4 rfl
      have df0 := b4.fr 0
      have df1 := b4.fr 1
      have df2 := b4.fr 2
      have df3 := b4.fr 3
      have df4 := b4.fr 4
      have oF := Lib.hid (((((o.st (p := ⟨w.heap.size + 1, 0, none⟩) (Nat.le_add_right _ _) (.int .i64 (cap6 : Int))).st (p := ⟨w.heap.size + 1, 1, none⟩) (Nat.le_add_right _ _) (.slice A6 F6.length c6)).st (p := ⟨w.heap.size + 1, 2, none⟩) (Nat.le_add_right _ _) (.bool (!up6))).st (p := ⟨w.heap.size + 1, 3, none⟩) (Nat.le_add_right _ _) (.int .i64 (left6 : Int))).st (p := ⟨w.heap.size + 1, 4, none⟩) (Nat.le_add_right _ _) (.int .i64 keep6))
      have bF := Lib.hid (bk5 b4 (.int .i64 (cap6 : Int)) (.slice A6 F6.length c6) (.bool (!up6)) (.int .i64 (left6 : Int)) (.int .i64 keep6))
      have HFB := Lib.hid (HFL.out.far5 b4 (by decide) (.int .i64 (cap6 : Int)) (.slice A6 F6.length c6) (.bool (!up6)) (.int .i64 (left6 : Int)) (.int .i64 keep6))
      clear o b4
      go_wp2
      have h1 := oF.out
      have h2 := bF.out
      have h3 := HFB.out
      clear oF bF HFB
      generalize (((((w5.setCell ⟨w.heap.size + 1, 0, none⟩ (.int .i64 (cap6 : Int))).setCell ⟨w.heap.size + 1, 1, none⟩ (.slice A6 F6.length c6)).setCell ⟨w.heap.size + 1, 2, none⟩ (.bool (!up6))).setCell ⟨w.heap.size + 1, 3, none⟩ (.int .i64 (left6 : Int))).setCell ⟨w.heap.size + 1, 4, none⟩ (.int .i64 keep6)) = WF at *
      have z0 : WF.cell? ⟨w.heap.size + 1, 0, none⟩ = some (.int .i64 (cap6 : Int)) := h2.at_ 0 rfl
      have z1 : WF.cell? ⟨w.heap.size + 1, 1, none⟩ = some (.slice A6 F6.length c6) := h2.at_ 1 rfl
      have z2 : WF.cell? ⟨w.heap.size + 1, 2, none⟩ = some (.bool (!up6)) := h2.at_ 2 rfl
      have z3 : WF.cell? ⟨w.heap.size + 1, 3, none⟩ = some (.int .i64 (left6 : Int)) := h2.at_ 3 rfl
      have z4 : WF.cell? ⟨w.heap.size + 1, 4, none⟩ = some (.int .i64 keep6) := h2.at_ 4 rfl
      refine bodyPost_ret (v := .tuple #[Rv (.slice A6 F6.length c6) ⟨cap6, F6, up6, left6, keep6⟩, .int .i64 e6]) (by simp [results, Tryd.results64, go_sem, z0, z1, z2, z3, z4]) rfl ?_
      exact ⟨_, _, rfl, h3, h1⟩
  · have HX := Lib.hid (show R = (⟨cap, F, up, left, keep⟩, 4) by
      rw [HR.out]; unfold rcreate; rw [he0]; simp [hf])
    clear HR he he0 hf hk HT
    have c0 : w2.cell? ⟨w.heap.size, 0, none⟩ = some (.int .i64 (cap : Int)) := b2.at_ 0 rfl
    have c1 : w2.cell? ⟨w.heap.size, 1, none⟩ = some (.slice A F.length c) := b2.at_ 1 rfl
    have c2 : w2.cell? ⟨w.heap.size, 2, none⟩ = some (.bool (!up)) := b2.at_ 2 rfl
    have c3 : w2.cell? ⟨w.heap.size, 3, none⟩ = some (.int .i64 (left : Int)) := b2.at_ 3 rfl
    have c4 : w2.cell? ⟨w.heap.size, 4, none⟩ = some (.int .i64 keep) := b2.at_ 4 rfl
    have d0 : w2.cell? ⟨w.heap.size + 1, 0, none⟩ = some (.int .i64 0) := b4.at_ 0 rfl
    have d1 : w2.cell? ⟨w.heap.size + 1, 1, none⟩ = some (.slice none 0 0) := b4.at_ 1 rfl
    have d2 : w2.cell? ⟨w.heap.size + 1, 2, none⟩ = some (.bool false) := b4.at_ 2 rfl
    have d3 : w2.cell? ⟨w.heap.size + 1, 3, none⟩ = some (.int .i64 0) := b4.at_ 3 rfl
    have d4 : w2.cell? ⟨w.heap.size + 1, 4, none⟩ = some (.int .i64 0) := b4.at_ 4 rfl
    have df0 := b4.fr 0
    have df1 := b4.fr 1
    have df2 := b4.fr 2
    have df3 := b4.fr 3
    have df4 := b4.fr 4
    have oF := Lib.hid (((((o.st (p := ⟨w.heap.size + 1, 0, none⟩) (Nat.le_add_right _ _) (.int .i64 (cap : Int))).st (p := ⟨w.heap.size + 1, 1, none⟩) (Nat.le_add_right _ _) (.slice A F.length c)).st (p := ⟨w.heap.size + 1, 2, none⟩) (Nat.le_add_right _ _) (.bool (!up))).st (p := ⟨w.heap.size + 1, 3, none⟩) (Nat.le_add_right _ _) (.int .i64 (left : Int))).st (p := ⟨w.heap.size + 1, 4, none⟩) (Nat.le_add_right _ _) (.int .i64 keep))
    have bF := Lib.hid (bk5 b4 (.int .i64 (cap : Int)) (.slice A F.length c) (.bool (!up)) (.int .i64 (left : Int)) (.int .i64 keep))
    have HFB := Lib.hid ((HFL.out.old o).far5 b4 (by decide) (.int .i64 (cap : Int)) (.slice A F.length c) (.bool (!up)) (.int .i64 (left : Int)) (.int .i64 keep))
    clear o b4
    clear b2
    go_wp2
    have h1 := oF.out
    have h2 := bF.out
    have h3 := HFB.out
    clear oF bF HFB
    generalize (((((w2.setCell ⟨w.heap.size + 1, 0, none⟩ (.int .i64 (cap : Int))).setCell ⟨w.heap.size + 1, 1, none⟩ (.slice A F.length c)).setCell ⟨w.heap.size + 1, 2, none⟩ (.bool (!up))).setCell ⟨w.heap.size + 1, 3, none⟩ (.int .i64 (left : Int))).setCell ⟨w.heap.size + 1, 4, none⟩ (.int .i64 keep)) = WF at *
    have z0 : WF.cell? ⟨w.heap.size + 1, 0, none⟩ = some (.int .i64 (cap : Int)) := h2.at_ 0 rfl
    have z1 : WF.cell? ⟨w.heap.size + 1, 1, none⟩ = some (.slice A F.length c) := h2.at_ 1 rfl
    have z2 : WF.cell? ⟨w.heap.size + 1, 2, none⟩ = some (.bool (!up)) := h2.at_ 2 rfl
    have z3 : WF.cell? ⟨w.heap.size + 1, 3, none⟩ = some (.int .i64 (left : Int)) := h2.at_ 3 rfl
    have z4 : WF.cell? ⟨w.heap.size + 1, 4, none⟩ = some (.int .i64 keep) := h2.at_ 4 rfl
    refine bodyPost_ret (v := .tuple #[Rv (.slice A F.length c) ⟨cap, F, up, left, keep⟩, .int .i64 4]) (by simp [results, Tryd.results64, go_sem, z0, z1, z2, z3, z4]) rfl ?_
    rw [HX.out]
    exact ⟨_, _, rfl, h3, h1⟩
end Go.Proofs.YtilimfbjkgeciaaDoor
