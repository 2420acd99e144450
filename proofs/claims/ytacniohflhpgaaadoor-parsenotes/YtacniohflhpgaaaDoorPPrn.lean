/-
  mayBeTold and write of the code. Conditions: lengths as written; the program's variables hold what they hold.
-/
import Derived.Test.YtacniohflhpgaaaDoorPFmt
namespace Go.Proofs.YtacniohflhpgaaaDoor
open Go.RowKit

theorem told_eq (c : Cel) : toldB c = (nameB c.row && !nothing c.row && nameB c.col && decide ((Lib.decDigits c.ts).length ≤ 18) && valB c.val && !(c.del && !c.val.isEmpty) && decide (c.seq = 0)) := rfl

set_option maxHeartbeats 4000000 in
theorem told_any (c : Cel) (w : World) (hv : Env w) (hok : c.ts < 18446744073709551616) (l1 : c.row.length ≤ 1000000000000000) (l2 : c.col.length ≤ 1000000000000000) (l3 : c.val.length ≤ 1000000000000000) :
    Calls Tryd.prog 24 #[cv c] w fun e w' => e = .returned (.bool (toldB c)) ∧ Old w w' := by
  have HE := Lib.hid (told_eq c)
  obtain ⟨E, hE⟩ : ∃ E, E = toldB c := ⟨_, rfl⟩
  rw [← hE] at HE ⊢
  clear hE
  cases a0 : nameB c.row with
  | false =>
    rw [a0] at HE
    go_enter Tryd.func24, Tryd.ntmps24
    go_wp2_with (go_at_call 36; refine (name_any _ _ (by assumption)).mono ?_; rintro e w' ⟨rfl, rfl⟩; simp only [a0])
    go_ret
    exact ⟨ret_bool (by rw [HE.out]; rfl), old_alloc _ _⟩
  | true =>
    cases a1 : nothing c.row with
    | true =>
      rw [a0, a1] at HE
      go_enter Tryd.func24, Tryd.ntmps24
      go_wp2_with (first
        | (go_at_call 36; refine (name_any _ _ (by assumption)).mono ?_; rintro e w' ⟨rfl, rfl⟩; simp only [a0])
        | (go_at_call 19; refine (nothing_any _ _).mono ?_; rintro e w' ⟨rfl, rfl⟩; simp only [a1]))
      go_ret
      exact ⟨ret_bool (by rw [HE.out]; rfl), old_alloc _ _⟩
    | false =>
      cases a2 : nameB c.col with
      | false =>
        rw [a0, a1, a2] at HE
        go_enter Tryd.func24, Tryd.ntmps24
        go_wp2_with (first
          | (go_at_call 36; refine (name_any _ _ (by assumption)).mono ?_; rintro e w' ⟨rfl, rfl⟩; simp only [a0, a2])
          | (go_at_call 19; refine (nothing_any _ _).mono ?_; rintro e w' ⟨rfl, rfl⟩; simp only [a1]))
        go_ret
        exact ⟨ret_bool (by rw [HE.out]; rfl), old_alloc _ _⟩
      | true =>
        rw [a0, a1, a2] at HE
        have hf := fmt_any c.ts hok (w.alloc (.cells (cells c) 33)) (hv.old (old_alloc _ _))
        have hb := new_bk w 33 (cells c)
        go_enter Tryd.func24, Tryd.ntmps24
        go_wp2_with (first
          | (go_at_call 36; refine (name_any _ _ (by assumption)).mono ?_; rintro e w' ⟨rfl, rfl⟩; simp only [a0, a2])
          | (go_at_call 19; refine (nothing_any _ _).mono ?_; rintro e w' ⟨rfl, rfl⟩; simp only [a1])
          | (go_at_call 37; refine hf.mono ?_; rintro e w3 ⟨rfl, o3⟩; refine Hid.out ?_))
        have hO := (old_alloc w (.cells (cells c) 33)).tr o3
        obtain ⟨z0, z1, z2, z3, z4, z5⟩ := (hb.old o3).six
        have dl := dec_len c.ts hok
        clear hb hf o3
        generalize (Lib.decDigits c.ts) = D at *
        by_cases b3 : D.length ≤ 18
        · have b3I : (D.length : Int) ≤ 18 := by omega
          cases b4 : valB c.val with
          | false =>
            rw [b4] at HE
            refine Lib.hid ?_
            go_wp2_with (go_at_call 38; refine (val_any _ _ (by assumption)).mono ?_; rintro e w' ⟨rfl, rfl⟩; simp only [b4])
            go_ret
            exact ⟨ret_bool (by rw [HE.out]; simp), hO⟩
          | true =>
            rw [b4] at HE
            have b3d : decide (D.length ≤ 18) = true := by simp [b3]
            rw [b3d] at HE
            cases b5 : c.del with
            | true =>
              rw [b5] at HE z4
              by_cases b6 : c.val = []
              · rw [b6] at HE z5
                by_cases b7 : c.seq = 0
                · rw [b7] at HE z3
                  refine Lib.hid ?_
                  go_wp2_with (go_at_call 38; refine (val_any _ _ (by first | assumption | simp)).mono ?_; rintro e w' ⟨rfl, rfl⟩; rw [show valB [] = true from rfl])
                  go_ret
                  exact ⟨ret_bool (by rw [HE.out]; rfl), hO⟩
                · have b7I : ¬ (c.seq : Int) = 0 := by omega
                  refine Lib.hid ?_
                  go_wp2_with (go_at_call 38; refine (val_any _ _ (by first | assumption | simp)).mono ?_; rintro e w' ⟨rfl, rfl⟩; rw [show valB [] = true from rfl])
                  go_ret
                  exact ⟨ret_bool (by rw [HE.out]; simp [b7]), hO⟩
              · have b6e : c.val.isEmpty = false := by simp [b6]
                rw [b6e] at HE
                refine Lib.hid ?_
                go_wp2_with (go_at_call 38; refine (val_any _ _ (by assumption)).mono ?_; rintro e w' ⟨rfl, rfl⟩; simp only [b4])
                go_ret
                exact ⟨ret_bool (by rw [HE.out]; simp), hO⟩
            | false =>
              rw [b5] at HE z4
              by_cases b7 : c.seq = 0
              · rw [b7] at HE z3
                refine Lib.hid ?_
                go_wp2_with (go_at_call 38; refine (val_any _ _ (by assumption)).mono ?_; rintro e w' ⟨rfl, rfl⟩; simp only [b4])
                go_ret
                exact ⟨ret_bool (by rw [HE.out]; rfl), hO⟩
              · have b7I : ¬ (c.seq : Int) = 0 := by omega
                refine Lib.hid ?_
                go_wp2_with (go_at_call 38; refine (val_any _ _ (by assumption)).mono ?_; rintro e w' ⟨rfl, rfl⟩; simp only [b4])
                go_ret
                exact ⟨ret_bool (by rw [HE.out]; simp [b7]), hO⟩
        · have b3I : ¬ (D.length : Int) ≤ 18 := by omega
          have b3d : decide (D.length ≤ 18) = false := by simp [b3]
          rw [b3d] at HE
          refine Lib.hid ?_
          go_wp2
          go_ret
          exact ⟨ret_bool (by rw [HE.out]; simp), hO⟩

/-- What stays while a line is written. -/
def Wrt (w : World) (c : Cel) (W : World) : Prop := Bk W w.heap.size 33 (cells c) ∧ Old w W
theorem Wrt.old {w W W' : World} {c : Cel} (h : Wrt w c W) (o : Old W W') : Wrt w c W' := ⟨h.1.old o, h.2.tr o⟩
theorem Wrt.held {w W : World} {c : Cel} (h : Wrt w c W) : Wrt w c W ∧ W.cell? ⟨w.heap.size, 0, none⟩ = some (.string (B c.row)) ∧ W.cell? ⟨w.heap.size, 1, none⟩ = some (.string (B c.col)) ∧ W.cell? ⟨w.heap.size, 2, none⟩ = some (.int .u64 c.ts) := by
  obtain ⟨z0, z1, z2, -, -, -⟩ := h.1.six
  exact ⟨h, z0, z1, z2⟩
theorem Wrt.dr {w W : World} {c : Cel} (h : Wrt w c W) : Wrt w c W.drew := ⟨h.1.drew, h.2.dr⟩

set_option maxHeartbeats 4000000 in
theorem write_any (c : Cel) (w : World) (hv : Env w) (hok : c.ts < 18446744073709551616) (l1 : c.row.length ≤ 1000000) (l2 : c.col.length ≤ 1000000) (l3 : c.val.length ≤ 1000000) :
    Calls Tryd.prog 26 #[cv c] w fun e w' => e = .returned (.string (B (lineL c))) ∧ Old w w' := by
  have dl := dec_len c.ts hok
  have HL := Lib.hid (show lineL c = c.row ++ [32] ++ c.col ++ [32] ++ Lib.decDigits c.ts ++ [32] ++ lastL c ++ [10] by simp [lineL, bodyL])
  have HC := Lib.hid fun W (h : Wrt w c W) => fmt_any c.ts hok W (hv.old h.2)
  have hw0 : Wrt w c (w.alloc (.cells (cells c) 33)) := ⟨new_bk _ _ _, old_alloc _ _⟩
  generalize Lib.decDigits c.ts = D at *
  have hll : (lastL c).length ≤ 1000001 := by unfold lastL; split <;> simp; omega
  have HLast := Lib.hid (show lastL c = if c.del then [45] else [61] ++ c.val from rfl)
  generalize lastL c = T at *
  cases hd : c.del with
  | true =>
    rw [hd] at HLast
    have hT : T = [45] := by have := HLast.out; simpa using this
    subst hT
    obtain ⟨z0, z1, z2, z3, z4, z5⟩ := hw0.1.six
    have n0 : ¬ (9223372036854775807 < c.row.length + 1) := by omega
    have m0 : (9223372036854775807 < c.row.length + 1) = False := eq_false n0
    have n1 : ¬ (9223372036854775807 < c.row.length + 1 + c.col.length) := by omega
    have m1 : (9223372036854775807 < c.row.length + 1 + c.col.length) = False := eq_false n1
    have n2 : ¬ (9223372036854775807 < c.row.length + 1 + c.col.length + 1) := by omega
    have m2 : (9223372036854775807 < c.row.length + 1 + c.col.length + 1) = False := eq_false n2
    have n3 : ¬ (9223372036854775807 < c.row.length + 1 + c.col.length + 1 + D.length) := by omega
    have m3 : (9223372036854775807 < c.row.length + 1 + c.col.length + 1 + D.length) = False := eq_false n3
    have n4 : ¬ (9223372036854775807 < c.row.length + 1 + c.col.length + 1 + D.length + 1) := by omega
    have m4 : (9223372036854775807 < c.row.length + 1 + c.col.length + 1 + D.length + 1) = False := eq_false n4
    have n5 : ¬ (9223372036854775807 < c.row.length + 1 + c.col.length + 1 + D.length + 1 + 1) := by omega
    have m5 : (9223372036854775807 < c.row.length + 1 + c.col.length + 1 + D.length + 1 + 1) = False := eq_false n5
    have n6 : ¬ (9223372036854775807 < c.row.length + 1 + c.col.length + 1 + D.length + 1 + 1 + 1) := by omega
    have m6 : (9223372036854775807 < c.row.length + 1 + c.col.length + 1 + D.length + 1 + 1 + 1) = False := eq_false n6
    rw [hd] at z4
    go_enter Tryd.func26, Tryd.ntmps26
    go_upto_region 4 with (fail)
    go_region_held3 (fun W => Wrt w c W ∧ W.cell? ⟨w.heap.size, 0, none⟩ = some (.string (B c.row)) ∧ W.cell? ⟨w.heap.size, 1, none⟩ = some (.string (B c.col)) ∧ W.cell? ⟨w.heap.size, 2, none⟩ = some (.int .u64 c.ts)) (first | exact Wrt.held (Wrt.old (And.left (by assumption)) (by assumption)) | exact hw0.dr.held | exact Wrt.held (And.left (by assumption)))
      (first
        | (go_at_call 37; with_reducible refine (HC.out _ (And.left (by assumption))).mono ?_; rintro r w20 ⟨rfl, h20⟩))
    have f9 : Wrt w c w20 := And.left (by assumption)
    go_wp2
    go_ret
    refine ⟨?_, f9.2⟩
    rw [HL.out]
    exact congrArg (fun x => Ending.returned (.string x)) (by simp only [← add_B])
  | false =>
    rw [hd] at HLast
    have hT := HLast.out
    rw [if_neg (by simp)] at hT
    subst hT
    obtain ⟨z0, z1, z2, z3, z4, z5⟩ := hw0.1.six
    rw [hd] at z4
    have n0 : ¬ (9223372036854775807 < c.row.length + 1) := by omega
    have m0 : (9223372036854775807 < c.row.length + 1) = False := eq_false n0
    have n1 : ¬ (9223372036854775807 < c.row.length + 1 + c.col.length) := by omega
    have m1 : (9223372036854775807 < c.row.length + 1 + c.col.length) = False := eq_false n1
    have n2 : ¬ (9223372036854775807 < c.row.length + 1 + c.col.length + 1) := by omega
    have m2 : (9223372036854775807 < c.row.length + 1 + c.col.length + 1) = False := eq_false n2
    have n3 : ¬ (9223372036854775807 < c.row.length + 1 + c.col.length + 1 + D.length) := by omega
    have m3 : (9223372036854775807 < c.row.length + 1 + c.col.length + 1 + D.length) = False := eq_false n3
    have n4 : ¬ (9223372036854775807 < c.row.length + 1 + c.col.length + 1 + D.length + 1) := by omega
    have m4 : (9223372036854775807 < c.row.length + 1 + c.col.length + 1 + D.length + 1) = False := eq_false n4
    have n5 : ¬ (9223372036854775807 < c.row.length + 1 + c.col.length + 1 + D.length + 1 + (1 + c.val.length)) := by omega
    have m5 : (9223372036854775807 < c.row.length + 1 + c.col.length + 1 + D.length + 1 + (1 + c.val.length)) = False := eq_false n5
    have n6 : ¬ (9223372036854775807 < c.row.length + 1 + c.col.length + 1 + D.length + 1 + (1 + c.val.length) + 1) := by omega
    have m6 : (9223372036854775807 < c.row.length + 1 + c.col.length + 1 + D.length + 1 + (1 + c.val.length) + 1) = False := eq_false n6
    go_enter Tryd.func26, Tryd.ntmps26
    go_upto_region 4 with (fail)
    go_region_held3 (fun W => Wrt w c W ∧ W.cell? ⟨w.heap.size, 0, none⟩ = some (.string (B c.row)) ∧ W.cell? ⟨w.heap.size, 1, none⟩ = some (.string (B c.col)) ∧ W.cell? ⟨w.heap.size, 2, none⟩ = some (.int .u64 c.ts)) (first | exact Wrt.held (Wrt.old (And.left (by assumption)) (by assumption)) | exact hw0.dr.held | exact Wrt.held (And.left (by assumption)))
      (first
        | (go_at_call 37; with_reducible refine (HC.out _ (And.left (by assumption))).mono ?_; rintro r w20 ⟨rfl, h20⟩))
    have f9 : Wrt w c w20 := And.left (by assumption)
    go_wp2
    go_ret
    refine ⟨?_, f9.2⟩
    rw [HL.out]
    exact congrArg (fun x => Ending.returned (.string x)) (by simp only [← add_B])
end Go.Proofs.YtacniohflhpgaaaDoor
