/-
  Word, isName, isValue and mayBeTold of the code, whatever the texts' sizes. Conditions: those that a machine's numbers set; the program's variables hold what they hold.
-/
import Derived.Test.YtacniohflhpgaaaDoorPPrt
namespace Go.Proofs.YtacniohflhpgaaaDoor
open Go.RowKit

set_option maxHeartbeats 1000000 in
theorem wordw_any (l : List UInt8) (w : World) (hl : l.length ≤ 9223372036854775807) :
    Calls Tryd.prog 12 #[.string (B l)] w fun e w' => e = .returned (.bool (wordB l)) ∧ w' = w := by
  obtain ⟨E, hE⟩ : ∃ E, E = wordB l := ⟨_, rfl⟩
  rw [← hE]
  have HE := Lib.hid hE
  clear hE
  go_enter Tryd.func12, Tryd.ntmps12
  go_wp2_with fail
  go_loop [6] (fun i => ∃ k : Nat, k ≤ l.length ∧ i = .int .i64 k ∧ Hid (seen l = seen (l.drop k))) (fun i => l.length - (intOf i).toNat)
  case atStart => exact ⟨0, Nat.zero_le _, rfl, Lib.hid (by rw [List.drop_zero])⟩
  case round =>
    obtain ⟨k, hk, rfl, HR⟩ := hrel
    by_cases hlt : k < l.length
    · have HD := Lib.hid (drop_cons l k hlt)
      have HB := Lib.hid (B_at l k hlt)
      go_wp2
      · go_ret
        exact ⟨ret_bool (by rw [HE.out, word_no HR.out HD.out (by rw [← HB.out]; omega)]), rfl⟩
      · go_round
        case rel => exact ⟨k + 1, by omega, by go_num, Lib.hid (seen_on HR.out HD.out (by rw [← HB.out]; omega))⟩
        case measure => simp [intOf]; omega
      · go_ret
        exact ⟨ret_bool (by rw [HE.out, word_no HR.out HD.out (by rw [← HB.out]; omega)]), rfl⟩
    · obtain rfl : k = l.length := by omega
      have HW := Lib.hid (HE.out.trans (word_end HR.out))
      by_cases h0 : l = []
      · subst h0
        go_wp2
        go_ret
        exact ⟨ret_bool (by rw [HW.out]; rfl), rfl⟩
      · have HZ := Lib.hid (show l.isEmpty = false by simp [h0])
        go_wp2
        go_ret
        exact ⟨ret_bool (by rw [HW.out, HZ.out]), rfl⟩
set_option maxHeartbeats 1000000 in
theorem namew_any (l : List UInt8) (w : World) (hl : l.length ≤ 9223372036854775807) :
    Calls Tryd.prog 36 #[.string (B l)] w fun e w' => e = .returned (.bool (nameB l)) ∧ w' = w := by
  have HE := Lib.hid (show nameB l = (wordB l && decide (l.length ≤ 40)) from rfl)
  obtain ⟨E, hE⟩ : ∃ E, E = nameB l := ⟨_, rfl⟩
  rw [← hE] at HE ⊢
  clear hE
  have C := wordw_any l w hl
  cases hw : wordB l with
  | true =>
    rw [hw] at C HE
    clear hw
    go_enter Tryd.func36, Tryd.ntmps36
    go_wp2_with (go_at_call 12; refine C.mono ?_; rintro e w' ⟨rfl, rfl⟩)
    go_ret
    refine ⟨ret_bool ?_, rfl⟩
    rw [HE.out]
    simp
    try omega
  | false =>
    rw [hw] at C HE
    clear hw
    go_enter Tryd.func36, Tryd.ntmps36
    go_wp2_with (go_at_call 12; refine C.mono ?_; rintro e w' ⟨rfl, rfl⟩)
    go_ret
    exact ⟨ret_bool (by rw [HE.out]; rfl), rfl⟩
set_option maxHeartbeats 1000000 in
theorem valw_any (l : List UInt8) (w : World) (hl : l.length ≤ 9223372036854775807) :
    Calls Tryd.prog 38 #[.string (B l)] w fun e w' => e = .returned (.bool (valB l)) ∧ w' = w := by
  have HE := Lib.hid (show valB l = (l.isEmpty || (wordB l && decide (l.length ≤ 100))) from rfl)
  obtain ⟨E, hE⟩ : ∃ E, E = valB l := ⟨_, rfl⟩
  rw [← hE] at HE ⊢
  clear hE
  have C := wordw_any l w hl
  by_cases h0 : l = []
  · subst h0
    go_enter Tryd.func38, Tryd.ntmps38
    go_wp2_with (go_at_call 12; refine C.mono ?_; rintro e w' ⟨rfl, rfl⟩)
    go_ret
    exact ⟨ret_bool (by rw [HE.out]; rfl), rfl⟩
  · rw [show l.isEmpty = false by simp [h0], Bool.false_or] at HE
    cases hw : wordB l with
    | true =>
      rw [hw] at C HE
      clear hw
      go_enter Tryd.func38, Tryd.ntmps38
      go_wp2_with (go_at_call 12; refine C.mono ?_; rintro e w' ⟨rfl, rfl⟩)
      go_ret
      refine ⟨ret_bool ?_, rfl⟩
      rw [HE.out, show l.isEmpty = false by simp [h0]]
      simp
      try omega
    | false =>
      rw [hw] at C HE
      clear hw
      go_enter Tryd.func38, Tryd.ntmps38
      go_wp2_with (go_at_call 12; refine C.mono ?_; rintro e w' ⟨rfl, rfl⟩)
      go_ret
      exact ⟨ret_bool (by rw [HE.out]; simp [h0]), rfl⟩
set_option maxHeartbeats 4000000 in
theorem toldw_any (c : Cel) (w : World) (hv : Env w) (hok : c.ts < 18446744073709551616) (l1 : c.row.length ≤ 9223372036854775807) (l2 : c.col.length ≤ 9223372036854775807) (l3 : c.val.length ≤ 9223372036854775807) :
    Calls Tryd.prog 24 #[cv c] w fun e w' => e = .returned (.bool (toldB c)) ∧ Old w w' := by
  have HE := Lib.hid (told_eq c)
  obtain ⟨E, hE⟩ : ∃ E, E = toldB c := ⟨_, rfl⟩
  rw [← hE] at HE ⊢
  clear hE
  cases a0 : nameB c.row with
  | false =>
    rw [a0] at HE
    go_enter Tryd.func24, Tryd.ntmps24
    go_wp2_with (go_at_call 36; refine (namew_any _ _ (by assumption)).mono ?_; rintro e w' ⟨rfl, rfl⟩; simp only [a0])
    go_ret
    exact ⟨ret_bool (by rw [HE.out]; rfl), old_alloc _ _⟩
  | true =>
    cases a1 : nothing c.row with
    | true =>
      rw [a0, a1] at HE
      go_enter Tryd.func24, Tryd.ntmps24
      go_wp2_with (first
        | (go_at_call 36; refine (namew_any _ _ (by assumption)).mono ?_; rintro e w' ⟨rfl, rfl⟩; simp only [a0])
        | (go_at_call 19; refine (nothing_any _ _).mono ?_; rintro e w' ⟨rfl, rfl⟩; simp only [a1]))
      go_ret
      exact ⟨ret_bool (by rw [HE.out]; rfl), old_alloc _ _⟩
    | false =>
      cases a2 : nameB c.col with
      | false =>
        rw [a0, a1, a2] at HE
        go_enter Tryd.func24, Tryd.ntmps24
        go_wp2_with (first
          | (go_at_call 36; refine (namew_any _ _ (by assumption)).mono ?_; rintro e w' ⟨rfl, rfl⟩; simp only [a0, a2])
          | (go_at_call 19; refine (nothing_any _ _).mono ?_; rintro e w' ⟨rfl, rfl⟩; simp only [a1]))
        go_ret
        exact ⟨ret_bool (by rw [HE.out]; rfl), old_alloc _ _⟩
      | true =>
        rw [a0, a1, a2] at HE
        have hf := fmt_any c.ts hok (w.alloc (.cells (cells c) 33)) (hv.old (old_alloc _ _))
        have hb := new_bk w 33 (cells c)
        go_enter Tryd.func24, Tryd.ntmps24
        go_wp2_with (first
          | (go_at_call 36; refine (namew_any _ _ (by assumption)).mono ?_; rintro e w' ⟨rfl, rfl⟩; simp only [a0, a2])
          | (go_at_call 19; refine (nothing_any _ _).mono ?_; rintro e w' ⟨rfl, rfl⟩; simp only [a1])
          | (go_at_call 37; refine hf.mono ?_; rintro e w3 ⟨rfl, o3⟩; refine Hid.out ?_))
        have hO := (old_alloc w (.cells (cells c) 33)).tr o3
        obtain ⟨z0, z1, z2, z3, z4, z5⟩ := (hb.old o3).six
        have dl := dec_len c.ts hok
        clear hb hf o3
        generalize (Lib.decDigits c.ts) = D at *
        by_cases b3 : D.length ≤ 18
        · have b3I : (D.length : Int) ≤ 18 := by omega
          cases b4 : valB c.val with
          | false =>
            rw [b4] at HE
            refine Lib.hid ?_
            go_wp2_with (go_at_call 38; refine (valw_any _ _ (by assumption)).mono ?_; rintro e w' ⟨rfl, rfl⟩; simp only [b4])
            go_ret
            exact ⟨ret_bool (by rw [HE.out]; simp), hO⟩
          | true =>
            rw [b4] at HE
            have b3d : decide (D.length ≤ 18) = true := by simp [b3]
            rw [b3d] at HE
            cases b5 : c.del with
            | true =>
              rw [b5] at HE z4
              by_cases b6 : c.val = []
              · rw [b6] at HE z5
                by_cases b7 : c.seq = 0
                · rw [b7] at HE z3
                  refine Lib.hid ?_
                  go_wp2_with (go_at_call 38; refine (valw_any _ _ (by first | assumption | simp)).mono ?_; rintro e w' ⟨rfl, rfl⟩; rw [show valB [] = true from rfl])
                  go_ret
                  exact ⟨ret_bool (by rw [HE.out]; rfl), hO⟩
                · have b7I : ¬ (c.seq : Int) = 0 := by omega
                  refine Lib.hid ?_
                  go_wp2_with (go_at_call 38; refine (valw_any _ _ (by first | assumption | simp)).mono ?_; rintro e w' ⟨rfl, rfl⟩; rw [show valB [] = true from rfl])
                  go_ret
                  exact ⟨ret_bool (by rw [HE.out]; simp [b7]), hO⟩
              · have b6e : c.val.isEmpty = false := by simp [b6]
                rw [b6e] at HE
                refine Lib.hid ?_
                go_wp2_with (go_at_call 38; refine (valw_any _ _ (by assumption)).mono ?_; rintro e w' ⟨rfl, rfl⟩; simp only [b4])
                go_ret
                exact ⟨ret_bool (by rw [HE.out]; simp), hO⟩
            | false =>
              rw [b5] at HE z4
              by_cases b7 : c.seq = 0
              · rw [b7] at HE z3
                refine Lib.hid ?_
                go_wp2_with (go_at_call 38; refine (valw_any _ _ (by assumption)).mono ?_; rintro e w' ⟨rfl, rfl⟩; simp only [b4])
                go_ret
                exact ⟨ret_bool (by rw [HE.out]; rfl), hO⟩
              · have b7I : ¬ (c.seq : Int) = 0 := by omega
                refine Lib.hid ?_
                go_wp2_with (go_at_call 38; refine (valw_any _ _ (by assumption)).mono ?_; rintro e w' ⟨rfl, rfl⟩; simp only [b4])
                go_ret
                exact ⟨ret_bool (by rw [HE.out]; simp [b7]), hO⟩
        · have b3I : ¬ (D.length : Int) ≤ 18 := by omega
          have b3d : decide (D.length ≤ 18) = false := by simp [b3]
          rw [b3d] at HE
          refine Lib.hid ?_
          go_wp2
          go_ret
          exact ⟨ret_bool (by rw [HE.out]; simp), hO⟩

end Go.Proofs.YtacniohflhpgaaaDoor
