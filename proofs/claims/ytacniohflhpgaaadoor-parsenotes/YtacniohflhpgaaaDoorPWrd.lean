/-
  Word of the code and of the reference, isName, isValue, saysNothing. Conditions: lengths as written.
-/
import Derived.Test.YtacniohflhpgaaaDoorPBase
import Derived.Test.YtacniohflhpgaaaDoorShelf
namespace Go.Proofs.YtacniohflhpgaaaDoor
open Go.RowKit

theorem seen_cons (b : UInt8) (l : List UInt8) : seen (b :: l) = ((decide (32 < b.toNat) && decide (b.toNat < 127)) && seen l) := by simp [seen]
theorem drop_cons {α : Type} (l : List α) (k : Nat) (h : k < l.length) : l.drop k = l[k] :: l.drop (k + 1) := List.drop_eq_getElem_cons h
theorem B_at (l : List UInt8) (k : Nat) (h : k < l.length) : (B l)[k]'(by simpa [B, ByteArray.size] using h) = l[k] := rfl
theorem word_no {l : List UInt8} {k : Nat} {b : UInt8} {r : List UInt8} (h1 : seen l = seen (l.drop k)) (h2 : l.drop k = b :: r) (h : ¬ (32 < b.toNat ∧ b.toNat < 127)) : wordB l = false := by
  have : seen l = false := by
    rw [h1, h2, seen_cons]
    by_cases h3 : 32 < b.toNat
    · have : ¬ b.toNat < 127 := fun e => h ⟨h3, e⟩
      simp [this]
    · simp [h3]
  simp [wordB, this]
theorem seen_on {l : List UInt8} {k : Nat} {b : UInt8} {r : List UInt8} (h1 : seen l = seen (l.drop k)) (h2 : l.drop k = b :: r) (h : 32 < b.toNat ∧ b.toNat < 127) : seen l = seen r := by
  rw [h1, h2, seen_cons]
  simp [h]
theorem word_end {l : List UInt8} (h1 : seen l = seen (l.drop l.length)) : wordB l = !l.isEmpty := by
  rw [List.drop_length] at h1
  unfold wordB
  rw [h1]
  simp [seen]

set_option maxHeartbeats 1000000 in
theorem word_any (l : List UInt8) (w : World) (hl : l.length ≤ 1000000000000000) :
    Calls Tryd.prog 12 #[.string (B l)] w fun e w' => e = .returned (.bool (wordB l)) ∧ w' = w := by
  obtain ⟨E, hE⟩ : ∃ E, E = wordB l := ⟨_, rfl⟩
  rw [← hE]
  have HE := Lib.hid hE
  clear hE
  go_enter Tryd.func12, Tryd.ntmps12
  go_wp2_with fail
  go_loop [6] (fun i => ∃ k : Nat, k ≤ l.length ∧ i = .int .i64 k ∧ Hid (seen l = seen (l.drop k))) (fun i => l.length - (intOf i).toNat)
  case atStart => exact ⟨0, Nat.zero_le _, rfl, Lib.hid (by rw [List.drop_zero])⟩
  case round =>
    obtain ⟨k, hk, rfl, HR⟩ := hrel
    by_cases hlt : k < l.length
    · have HD := Lib.hid (drop_cons l k hlt)
      have HB := Lib.hid (B_at l k hlt)
      go_wp2
      · go_ret
        exact ⟨ret_bool (by rw [HE.out, word_no HR.out HD.out (by rw [← HB.out]; omega)]), rfl⟩
      · go_round
        case rel => exact ⟨k + 1, by omega, by go_num, Lib.hid (seen_on HR.out HD.out (by rw [← HB.out]; omega))⟩
        case measure => simp [intOf]; omega
      · go_ret
        exact ⟨ret_bool (by rw [HE.out, word_no HR.out HD.out (by rw [← HB.out]; omega)]), rfl⟩
    · obtain rfl : k = l.length := by omega
      have HW := Lib.hid (HE.out.trans (word_end HR.out))
      by_cases h0 : l = []
      · subst h0
        go_wp2
        go_ret
        exact ⟨ret_bool (by rw [HW.out]; rfl), rfl⟩
      · have HZ := Lib.hid (show l.isEmpty = false by simp [h0])
        go_wp2
        go_ret
        exact ⟨ret_bool (by rw [HW.out, HZ.out]), rfl⟩

set_option maxHeartbeats 1000000 in
theorem rword_any (l : List UInt8) (w : World) (hl : l.length ≤ 1000000000000000) :
    Calls Tryd.prog 13 #[.string (B l)] w fun e w' => e = .returned (.bool (wordB l)) ∧ w' = w := by
  obtain ⟨E, hE⟩ : ∃ E, E = wordB l := ⟨_, rfl⟩
  rw [← hE]
  have HE := Lib.hid hE
  clear hE
  go_enter Tryd.func13, Tryd.ntmps13
  go_wp2_with fail
  go_loop [3] (fun i => ∃ k : Nat, k ≤ l.length ∧ i = .int .i64 k ∧ Hid (seen l = seen (l.drop k))) (fun i => l.length - (intOf i).toNat)
  case atStart => exact ⟨0, Nat.zero_le _, rfl, Lib.hid (by rw [List.drop_zero])⟩
  case round =>
    obtain ⟨k, hk, rfl, HR⟩ := hrel
    by_cases hlt : k < l.length
    · have HD := Lib.hid (drop_cons l k hlt)
      have HB := Lib.hid (B_at l k hlt)
      go_wp2
      · go_ret
        exact ⟨ret_bool (by rw [HE.out, word_no HR.out HD.out (by rw [← HB.out]; omega)]), rfl⟩
      · go_round
        case rel => exact ⟨k + 1, by omega, by go_num, Lib.hid (seen_on HR.out HD.out (by rw [← HB.out]; omega))⟩
        case measure => simp [intOf]; omega
      · go_ret
        exact ⟨ret_bool (by rw [HE.out, word_no HR.out HD.out (by rw [← HB.out]; omega)]), rfl⟩
    · obtain rfl : k = l.length := by omega
      have HW := Lib.hid (HE.out.trans (word_end HR.out))
      go_wp2
      go_ret
      refine ⟨ret_bool ?_, rfl⟩
      rw [HW.out]
      cases l <;> simp

theorem B_nil (l : List UInt8) : B l = ⟨#[]⟩ ↔ l = [] := by
  constructor
  · intro h
    have := congrArg (fun x : ByteArray => x.data.toList) h
    simpa [B] using this
  · rintro rfl; rfl

set_option maxHeartbeats 1000000 in
theorem name_any (l : List UInt8) (w : World) (hl : l.length ≤ 1000000000000000) :
    Calls Tryd.prog 36 #[.string (B l)] w fun e w' => e = .returned (.bool (nameB l)) ∧ w' = w := by
  have HE := Lib.hid (show nameB l = (wordB l && decide (l.length ≤ 40)) from rfl)
  obtain ⟨E, hE⟩ : ∃ E, E = nameB l := ⟨_, rfl⟩
  rw [← hE] at HE ⊢
  clear hE
  have C := word_any l w hl
  cases hw : wordB l with
  | true =>
    rw [hw] at C HE
    clear hw
    go_enter Tryd.func36, Tryd.ntmps36
    go_wp2_with (go_at_call 12; refine C.mono ?_; rintro e w' ⟨rfl, rfl⟩)
    go_ret
    refine ⟨ret_bool ?_, rfl⟩
    rw [HE.out]
    simp
    try omega
  | false =>
    rw [hw] at C HE
    clear hw
    go_enter Tryd.func36, Tryd.ntmps36
    go_wp2_with (go_at_call 12; refine C.mono ?_; rintro e w' ⟨rfl, rfl⟩)
    go_ret
    exact ⟨ret_bool (by rw [HE.out]; rfl), rfl⟩

set_option maxHeartbeats 1000000 in
theorem val_any (l : List UInt8) (w : World) (hl : l.length ≤ 1000000000000000) :
    Calls Tryd.prog 38 #[.string (B l)] w fun e w' => e = .returned (.bool (valB l)) ∧ w' = w := by
  have HE := Lib.hid (show valB l = (l.isEmpty || (wordB l && decide (l.length ≤ 100))) from rfl)
  obtain ⟨E, hE⟩ : ∃ E, E = valB l := ⟨_, rfl⟩
  rw [← hE] at HE ⊢
  clear hE
  have C := word_any l w hl
  by_cases h0 : l = []
  · subst h0
    go_enter Tryd.func38, Tryd.ntmps38
    go_wp2_with (go_at_call 12; refine C.mono ?_; rintro e w' ⟨rfl, rfl⟩)
    go_ret
    exact ⟨ret_bool (by rw [HE.out]; rfl), rfl⟩
  · rw [show l.isEmpty = false by simp [h0], Bool.false_or] at HE
    cases hw : wordB l with
    | true =>
      rw [hw] at C HE
      clear hw
      go_enter Tryd.func38, Tryd.ntmps38
      go_wp2_with (go_at_call 12; refine C.mono ?_; rintro e w' ⟨rfl, rfl⟩)
      go_ret
      refine ⟨ret_bool ?_, rfl⟩
      rw [HE.out, show l.isEmpty = false by simp [h0]]
      simp
      try omega
    | false =>
      rw [hw] at C HE
      clear hw
      go_enter Tryd.func38, Tryd.ntmps38
      go_wp2_with (go_at_call 12; refine C.mono ?_; rintro e w' ⟨rfl, rfl⟩)
      go_ret
      exact ⟨ret_bool (by rw [HE.out]; simp [h0]), rfl⟩

theorem note_head (x : UInt8) (r : List UInt8) : Lib.hasPrefix (x :: r) [35] = decide ((x :: r).head? = some 35) := by
  simp only [Lib.hasPrefix, List.isPrefixOf, List.head?_cons, Bool.and_true, Option.some.injEq]
  rw [Bool.eq_iff_iff, beq_iff_eq, decide_eq_true_iff]
  exact eq_comm

set_option maxHeartbeats 1000000 in
theorem nothing_any (l : List UInt8) (w : World) :
    Calls Tryd.prog 19 #[.string (B l)] w fun e w' => e = .returned (.bool (nothing l)) ∧ w' = w := by
  have HE := Lib.hid (show nothing l = (l.isEmpty || decide (l.head? = some 35)) from rfl)
  obtain ⟨E, hE⟩ : ∃ E, E = nothing l := ⟨_, rfl⟩
  rw [← hE] at HE ⊢
  clear hE
  have C := Tryd.strings_HasPrefix (B l) ⟨#[35]⟩ w
  by_cases h0 : l = []
  · subst h0
    go_enter Tryd.func19, Tryd.ntmps19
    go_wp2_with (go_at_call 30; refine C.mono ?_; rintro e w' ⟨rfl, rfl⟩)
    go_ret
    exact ⟨ret_bool (by rw [HE.out]; rfl), rfl⟩
  · have HZ := Lib.hid (show Lib.hasPrefix l [35] = decide (l.head? = some 35) by
      obtain ⟨x, t, rfl⟩ := List.exists_cons_of_ne_nil h0
      exact note_head x t)
    have HN := Lib.hid (show l.isEmpty = false by simp [h0])
    go_enter Tryd.func19, Tryd.ntmps19
    go_wp2_with (go_at_call 30; refine C.mono ?_; rintro e w' ⟨rfl, rfl⟩)
    go_ret
    refine ⟨ret_bool ?_, rfl⟩
    rw [HE.out, HN.out, ← HZ.out]
end Go.Proofs.YtacniohflhpgaaaDoor
