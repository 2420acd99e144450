/-
  The four closures of looksOf, looksOf itself. Conditions: lengths as written; the program's variables hold what they hold.
-/
import Derived.Test.YtacniohflhpgaaaDoorPSpl
namespace Go.Proofs.YtacniohflhpgaaaDoor
open Go.RowKit

/-- A cell, and a pointer to it in a box. -/
structure Bx (w : World) (b g : Nat) (c : Cel) : Prop where
  box : Bk w b 62 #[.pointer (some ⟨g, 0, none⟩)]
  cel : Bk w g 33 (cells c)

set_option maxHeartbeats 1000000 in
theorem look1_any (l : List UInt8) (b g : Nat) (c : Cel) (w : World) (h : Bx w b g c) (hne : b ≠ g) (hl : l.length ≤ 1000000000000000) :
    Calls Tryd.prog 44 #[.string (B l), .pointer (some ⟨b, 0, none⟩)] w fun e w' => e = .returned (.bool (nameB l)) ∧ Bx w' b g { c with row := l } ∧ But g w w' := by
  have hc := h.box.cell 0
  have hc2 := h.cel.cell 0
  have hf := h.cel.fr 0
  have HX : Hid (Bx (w.setCell ⟨g, 0, none⟩ (.string (B l))) b g { c with row := l } ∧ But g w (w.setCell ⟨g, 0, none⟩ (.string (B l)))) := Lib.hid ⟨⟨h.box.far hne _, h.cel.set_ 0 _⟩, (But.re _ _).st _ _⟩
  go_enter Tryd.func44, Tryd.ntmps44
  go_wp2_with (go_at_call 36; refine (name_any l _ hl).mono ?_; rintro e w' ⟨rfl, rfl⟩)
  go_ret
  exact ⟨rfl, HX.out⟩
set_option maxHeartbeats 1000000 in
theorem look2_any (l : List UInt8) (b g : Nat) (c : Cel) (w : World) (h : Bx w b g c) (hne : b ≠ g) (hl : l.length ≤ 1000000000000000) :
    Calls Tryd.prog 45 #[.string (B l), .pointer (some ⟨b, 0, none⟩)] w fun e w' => e = .returned (.bool (nameB l)) ∧ Bx w' b g { c with col := l } ∧ But g w w' := by
  have hc := h.box.cell 0
  have hc2 := h.cel.cell 1
  have hf := h.cel.fr 1
  have HX : Hid (Bx (w.setCell ⟨g, 1, none⟩ (.string (B l))) b g { c with col := l } ∧ But g w (w.setCell ⟨g, 1, none⟩ (.string (B l)))) := Lib.hid ⟨⟨h.box.far hne _, h.cel.set_ 1 _⟩, (But.re _ _).st _ _⟩
  go_enter Tryd.func45, Tryd.ntmps45
  go_wp2_with (go_at_call 36; refine (name_any l _ hl).mono ?_; rintro e w' ⟨rfl, rfl⟩)
  go_ret
  exact ⟨rfl, HX.out⟩
set_option maxHeartbeats 1000000 in
theorem look3_any (l : List UInt8) (b g : Nat) (c : Cel) (w : World) (hv : Env w) (h : Bx w b g c) (hne : b ≠ g) (hl : l.length ≤ 4000000000) :
    Calls Tryd.prog 46 #[.string (B l), .pointer (some ⟨b, 0, none⟩)] w fun e w' => e = .returned (.bool (digO l).isSome) ∧ Bx w' b g { c with ts := puN l } ∧ But g w w' := by
  have HD := Lib.hid (digO_pu l)
  obtain ⟨E, hE⟩ : ∃ E, E = (digO l).isSome := ⟨_, rfl⟩
  rw [← hE]
  have HE := Lib.hid hE
  clear hE
  have C := uint_any l w hv hl
  cases hb : puB l with
  | true =>
    rw [hb] at C HD
    go_enter Tryd.func46, Tryd.ntmps46
    go_wp2_with (go_at_call 47; refine C.mono ?_; rintro e w1 ⟨er, rfl, h1, -, ho⟩; refine Hid.out ?_)
    rw [if_pos trivial] at h1
    subst h1
    have hx : Bx w1 b g c := ⟨h.box.old ho, h.cel.old ho⟩
    have hc := hx.box.cell 0
    have hc2 := hx.cel.cell 2
    have hf := hx.cel.fr 2
    have HX : Hid (Bx (w1.setCell ⟨g, 2, none⟩ (.int .u64 (puN l : Nat))) b g { c with ts := puN l } ∧ But g w (w1.setCell ⟨g, 2, none⟩ (.int .u64 (puN l : Nat)))) := Lib.hid ⟨⟨hx.box.far hne _, hx.cel.set_ 2 _⟩, ((But.re _ _).ol ho).st _ _⟩
    refine Lib.hid ?_
    go_wp2
    go_ret
    refine ⟨ret_bool ?_, HX.out⟩
    rw [HE.out, HD.out]
    by_cases h18 : l.length ≤ 18
    · simp [h18]; try omega
    · simp [h18]; try omega
  | false =>
    rw [hb] at C HD
    go_enter Tryd.func46, Tryd.ntmps46
    go_wp2_with (go_at_call 47; refine C.mono ?_; rintro e w1 ⟨er, rfl, -, h1, ho⟩; refine Hid.out ?_)
    obtain ⟨t, p, rfl⟩ := h1 trivial
    have hx : Bx w1 b g c := ⟨h.box.old ho, h.cel.old ho⟩
    have hc := hx.box.cell 0
    have hc2 := hx.cel.cell 2
    have hf := hx.cel.fr 2
    have HX : Hid (Bx (w1.setCell ⟨g, 2, none⟩ (.int .u64 (puN l : Nat))) b g { c with ts := puN l } ∧ But g w (w1.setCell ⟨g, 2, none⟩ (.int .u64 (puN l : Nat)))) := Lib.hid ⟨⟨hx.box.far hne _, hx.cel.set_ 2 _⟩, ((But.re _ _).ol ho).st _ _⟩
    refine Lib.hid ?_
    go_wp2
    go_ret
    refine ⟨ret_bool ?_, HX.out⟩
    rw [HE.out, HD.out]
    simp
/-- The last word, looked at: whether it may stand there. -/
def lastB (l : List UInt8) : Bool := match l with | [] => false | x :: v => if x = 61 then valB v else decide (x = 45 ∧ v = [])
/-- The cell behind it. -/
def lastC (c : Cel) (l : List UInt8) : Cel := if l.head? = some 61 then { c with val := l.tail } else { c with del := true }
theorem eq_pre (l : List UInt8) : Lib.hasPrefix l [61] = decide (l.head? = some 61) := by
  cases l with
  | nil => rfl
  | cons x r =>
    simp only [Lib.hasPrefix, List.isPrefixOf, List.head?_cons, Bool.and_true, Option.some.injEq]
    rw [Bool.eq_iff_iff, beq_iff_eq, decide_eq_true_iff]
    exact eq_comm
theorem B_inj {a b : List UInt8} : B a = B b ↔ a = b := by
  constructor
  · intro h
    have := congrArg (fun x : ByteArray => x.data.toList) h
    simpa [B] using this
  · rintro rfl; rfl
set_option maxHeartbeats 1000000 in
theorem look4_any (l : List UInt8) (b g : Nat) (c : Cel) (w : World) (h : Bx w b g c) (hne : b ≠ g) (hl : l.length ≤ 4000000000) :
    Calls Tryd.prog 48 #[.string (B l), .pointer (some ⟨b, 0, none⟩)] w fun e w' => e = .returned (.bool (lastB l)) ∧ Bx w' b g (lastC c l) ∧ But g w w' := by
  have C := Tryd.strings_CutPrefix (B l) (B [61]) w
  rw [show (B l).data.toList = l from rfl, show (B [61]).data.toList = [61] from rfl, Lib.trimPrefix, eq_pre] at C
  by_cases hp : l.head? = some 61
  · obtain ⟨v, rfl⟩ : ∃ v, l = 61 :: v := by
      cases l with
      | nil => cases hp
      | cons x v => simp at hp; subst hp; exact ⟨v, rfl⟩
    rw [show lastB (61 :: v) = valB v from rfl, show lastC c (61 :: v) = { c with val := v } from rfl]
    rw [show decide ((61 :: v).head? = some (61 : UInt8)) = true from rfl, if_pos rfl, show (61 :: v).drop [(61 : UInt8)].length = v from rfl] at C
    have hc := h.box.cell 0
    have hc2 := h.cel.cell 5
    have hf := h.cel.fr 5
    have HX : Hid (Bx (w.setCell ⟨g, 5, none⟩ (.string (B v))) b g { c with val := v } ∧ But g w (w.setCell ⟨g, 5, none⟩ (.string (B v)))) := Lib.hid ⟨⟨h.box.far hne _, h.cel.set_ 5 _⟩, (But.re _ _).st _ _⟩
    have hlv : v.length ≤ 1000000000000000 := by simp at hl; omega
    go_enter Tryd.func48, Tryd.ntmps48
    go_wp2_with (first
      | (go_at_call 49; refine C.mono ?_; rintro e w' ⟨rfl, rfl⟩)
      | (go_at_call 38; refine (val_any v _ hlv).mono ?_; rintro e w' ⟨rfl, rfl⟩))
    go_ret
    exact ⟨rfl, HX.out⟩
  · have HE : Hid (decide (l = [45]) = lastB l) := Lib.hid (by
      cases l with
      | nil => rfl
      | cons x v =>
        have : ¬ x = 61 := fun e => hp (by rw [e]; rfl)
        simp [lastB, this])
    obtain ⟨E, hE⟩ : ∃ E, E = lastB l := ⟨_, rfl⟩
    rw [← hE] at HE ⊢
    clear hE
    rw [show lastC c l = { c with del := true } from if_neg hp]
    rw [decide_eq_false hp] at C
    rw [if_neg (by simp)] at C
    have hc := h.box.cell 0
    have hc2 := h.cel.cell 4
    have hf := h.cel.fr 4
    have HX : Hid (Bx (w.setCell ⟨g, 4, none⟩ (.bool true)) b g { c with del := true } ∧ But g w (w.setCell ⟨g, 4, none⟩ (.bool true))) := Lib.hid ⟨⟨h.box.far hne _, h.cel.set_ 4 _⟩, (But.re _ _).st _ _⟩
    go_enter Tryd.func48, Tryd.ntmps48
    go_wp2_with (go_at_call 49; refine C.mono ?_; rintro e w' ⟨rfl, rfl⟩)
    go_ret
    refine ⟨ret_bool ?_, HX.out⟩
    rw [← HE.out]
    rw [Bool.eq_iff_iff, beq_iff_eq, decide_eq_true_iff]
end Go.Proofs.YtacniohflhpgaaaDoor
