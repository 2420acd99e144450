/-
  ready, find, Read, Synced, openGate, On, New of the code. Conditions: the disk lies in memory; lengths as written.
-/
import Derived.Test.YtilimfbjkgeciaaDoorVBase
namespace Go.Proofs.YtilimfbjkgeciaaDoor
set_option maxRecDepth 100000
open Go.RowKit Go.Maps

/-- A slice at A of these texts. -/
def Strs (w : World) (A : Option Addr) (cap : Nat) (l : List (List UInt8)) : Prop :=
  l.length ≤ cap ∧ ∀ (i : Nat) (t : List UInt8), l[i]? = some t → t.length ≤ maxLen ∧ ∃ b off, A = some ⟨b, off, none⟩ ∧ w.cell? ⟨b, off + i, none⟩ = some (.string (B t))
theorem Strs.at_ {w : World} {A : Option Addr} {cap : Nat} {l : List (List UInt8)} (h : Strs w A cap l) (i : Nat) (hi : i < l.length) : l[i].length ≤ maxLen ∧ ∃ b off, A = some ⟨b, off, none⟩ ∧ w.cell? ⟨b, off + i, none⟩ = some (.string (B l[i])) := h.2 i _ (List.getElem?_eq_getElem hi)
theorem cell_old {w W : World} {b o : Nat} {v : Value} (h : w.cell? ⟨b, o, none⟩ = some v) (k : Old w W) : W.cell? ⟨b, o, none⟩ = some v := by
  rw [k.cell (p := ⟨b, o, none⟩) (World.block_lt_of_cell? w ⟨b, o, none⟩ h)]; exact h
theorem Strs.old {w W : World} {A : Option Addr} {cap : Nat} {l : List (List UInt8)} (h : Strs w A cap l) (k : Old w W) : Strs W A cap l := by
  refine ⟨h.1, fun i t ht => ?_⟩
  obtain ⟨h1, b, off, rfl, h2⟩ := h.2 i t ht
  exact ⟨h1, b, off, rfl, cell_old h2 k⟩

/-- Whether a text may be a name. -/
def bad (s : List UInt8) : Bool := decide (s.length < 1) || decide (60 < s.length)
theorem bad_no {s : List UInt8} (h : bad s = false) : 1 ≤ s.length ∧ s.length ≤ 60 := by
  unfold bad at h
  rw [Bool.or_eq_false_iff, decide_eq_false_iff_not, decide_eq_false_iff_not] at h
  omega
theorem bad_of {s : List UInt8} (h1 : 1 ≤ s.length) (h2 : s.length ≤ 60) : bad s = false := by
  unfold bad
  rw [Bool.or_eq_false_iff, decide_eq_false_iff_not, decide_eq_false_iff_not]
  omega
/-- The error that comes ahead of all others. -/
def rdyE (k : Dsk) (l : List (List UInt8)) : Int := if k.up = false then 6 else if l.any bad then 1 else 0

set_option maxHeartbeats 1000000 in
theorem ready_any (k : Dsk) (l : List (List UInt8)) (A : Option Addr) (cap : Nat) (w : World) (h : Dk w k) (hS : Strs w A cap l) (hl : l.length ≤ 1000) :
    Calls Tryd.prog 71 #[ptr k.d, .slice A l.length cap] w fun e w' => e = .returned (.int .i64 (rdyE k l)) ∧ w = w' := by
  have c2 := h.disk.at_ 2 rfl
  obtain ⟨E, hE⟩ : ∃ E, E = rdyE k l := ⟨_, rfl⟩
  rw [← hE]
  have HE := Lib.hid hE
  clear hE
  cases hu : k.up with
  | false =>
    rw [hu] at c2
    have HU := Lib.hid hu
    clear hu
    go_enter Tryd.func71, Tryd.ntmps71
    go_wp2
    go_ret
    refine ⟨?_, rfl⟩
    rw [HE.out, rdyE, HU.out]
    rfl
  | true =>
    rw [hu] at c2
    have HU := Lib.hid hu
    clear hu
    go_enter Tryd.func71, Tryd.ntmps71
    go_wp2
    go_loop [14] (fun i => ∃ j : Nat, j ≤ l.length ∧ i = .int .i64 j ∧ (l.take j).any bad = false) (fun i => l.length - (intOf i).toNat)
    case atStart => exact ⟨0, Nat.zero_le _, rfl, rfl⟩
    case round =>
      obtain ⟨j, hj, rfl, hb⟩ := hrel
      by_cases hlt : j < l.length
      · obtain ⟨hm, b, off, rfl, hc⟩ := hS.at_ j hlt
        have HT := Lib.hid (show (l.take (j + 1)).any bad = ((l.take j).any bad || bad l[j]) by rw [List.take_succ_eq_append_getElem hlt, List.any_append]; simp)
        have HM := Lib.hid (fun h : bad l[j] = true => (show E = 1 by rw [HE.out, rdyE, HU.out, if_neg (by decide), if_pos (List.any_eq_true.2 ⟨l[j], List.getElem_mem hlt, h⟩)]))
        have HB := Lib.hid hb
        clear hb
        generalize l[j] = s at *
        unfold maxLen at hm
        by_cases h1 : s = []
        · have HX := Lib.hid (HM.out (by rw [h1]; rfl))
          clear HM
          go_wp2
          go_ret
          rw [HX.out]
          exact ⟨rfl, rfl⟩
        · have h1' : 1 ≤ s.length := by cases s with | nil => exact absurd rfl h1 | cons x s => simp
          have hie : s.isEmpty = false := by cases s with | nil => exact absurd rfl h1 | cons x s => rfl
          clear h1
          by_cases h2 : 60 < s.length
          · have HX := Lib.hid (HM.out (by unfold bad; simp [h2]))
            clear HM
            go_wp2
            go_ret
            rw [HX.out]
            exact ⟨rfl, rfl⟩
          · have hbs : bad s = false := bad_of h1' (by omega)
            have HY := Lib.hid (show (l.take (j + 1)).any bad = false by rw [HT.out, HB.out, hbs]; rfl)
            clear hbs HM
            go_wp2
            go_round
            case rel => exact ⟨j + 1, by omega, by go_num, HY.out⟩
            case measure => simp [intOf]; omega
      · rw [List.take_of_length_le (by omega)] at hb
        have HB := Lib.hid (show E = 0 by rw [HE.out, rdyE, HU.out, if_neg (by decide), hb]; rfl)
        clear hb
        go_wp2
        go_ret
        rw [HB.out]
        exact ⟨rfl, rfl⟩

theorem strs_one (w : World) (s : List UInt8) (hs : s.length ≤ 100000) : Strs (w.alloc (.cells #[.string (B s)] 9)) (some ⟨w.heap.size, 0, none⟩) 1 [s] := by
  refine ⟨Nat.le_refl _, fun i t ht => ?_⟩
  cases i with
  | zero =>
    simp at ht
    subst ht
    refine ⟨by unfold maxLen; omega, _, _, rfl, ?_⟩
    rw [(new_bk w 9 #[.string (B s)]).cell]
    rfl
  | succ i => simp at ht
theorem strs_bk1 {w : World} {g : Nat} {s : List UInt8} (hs : s.length ≤ 100000) (h : Bk w g 9 #[.string (B s)]) : Strs w (some ⟨g, 0, none⟩) 1 [s] := by
  refine ⟨Nat.le_refl _, fun i t ht => ?_⟩
  cases i with
  | zero =>
    simp at ht
    subst ht
    exact ⟨by unfold maxLen; omega, _, _, rfl, h.at_ 0 rfl⟩
  | succ i => simp at ht
theorem strs_bk2 {w : World} {g : Nat} {s t : List UInt8} (hs : s.length ≤ 100000) (ht : t.length ≤ 100000) (h : Bk w g 9 #[.string (B s), .string (B t)]) : Strs w (some ⟨g, 0, none⟩) 2 [s, t] := by
  refine ⟨Nat.le_refl _, fun i u hu => ?_⟩
  match i with
  | 0 =>
    simp at hu
    subst hu
    exact ⟨by unfold maxLen; omega, _, _, rfl, h.at_ 0 rfl⟩
  | 1 =>
    simp at hu
    subst hu
    exact ⟨by unfold maxLen; omega, _, _, rfl, h.at_ 1 rfl⟩
  | i + 2 => simp at hu
theorem ready1' (k : Dsk) (s : List UInt8) (hs : s.length ≤ 100000) (g : Nat) (w : World) (h : Dk w k) (hb : Bk w g 9 #[.string (B s)]) :
    Calls Tryd.prog 71 #[ptr k.d, .slice (some ⟨g, 0, none⟩) 1 1] w fun e w' => e = .returned (.int .i64 (rdyE k [s])) ∧ w = w' :=
  ready_any k [s] _ 1 w h (strs_bk1 hs hb) (by simp)
theorem ready2' (k : Dsk) (s t : List UInt8) (hs : s.length ≤ 100000) (ht : t.length ≤ 100000) (g : Nat) (w : World) (h : Dk w k) (hb : Bk w g 9 #[.string (B s), .string (B t)]) :
    Calls Tryd.prog 71 #[ptr k.d, .slice (some ⟨g, 0, none⟩) 2 2] w fun e w' => e = .returned (.int .i64 (rdyE k [s, t])) ∧ w = w' :=
  ready_any k [s, t] _ 2 w h (strs_bk2 hs ht hb) (by simp)

/-- The error of a call that needs a file, and the file. -/
def fndE (k : Dsk) (s : List UInt8) : Int := if rdyE k [s] ≠ 0 then rdyE k [s] else if (fnd k.files s).isNone then 3 else 0
def fndP (k : Dsk) (s : List UInt8) : Value := if rdyE k [s] ≠ 0 then .pointer none else fptr k.files s
theorem fndE_ok {k : Dsk} {s : List UInt8} (h : fndE k s = 0) : ∃ f, fnd k.files s = some f ∧ fndP k s = ptr f.blk ∧ k.up = true ∧ bad s = false := by
  unfold fndE at h
  by_cases h1 : rdyE k [s] = 0
  · rw [if_neg (by simpa using h1)] at h
    cases hf : fnd k.files s with
    | none => rw [hf] at h; cases h
    | some f =>
      refine ⟨f, rfl, ?_, ?_, ?_⟩
      · unfold fndP fptr
        rw [if_neg (by simpa using h1), hf]
      · unfold rdyE at h1
        cases hu : k.up
        · rw [hu] at h1; cases h1
        · rfl
      · unfold rdyE at h1
        cases hb : bad s
        · rfl
        · simp [hb] at h1
          split at h1 <;> cases h1
  · rw [if_pos h1] at h; exact absurd h h1
theorem fndE_of {k : Dsk} {s : List UInt8} {f : Fl} (hu : k.up = true) (hb : bad s = false) (hf : fnd k.files s = some f) : fndE k s = 0 ∧ fndP k s = ptr f.blk := by
  have h1 : rdyE k [s] = 0 := by unfold rdyE; simp [hu, hb]
  unfold fndE fndP fptr
  simp [h1, hf]
theorem fndP_no {k : Dsk} {s : List UInt8} (h : fndE k s ≠ 0) : fndP k s = .pointer none := by
  unfold fndE at h
  unfold fndP
  by_cases h1 : rdyE k [s] = 0
  · rw [if_neg (by simpa using h1)] at h ⊢
    unfold fptr
    cases hf : fnd k.files s with
    | none => rfl
    | some f => rw [hf] at h; exact absurd rfl h
  · rw [if_pos h1]
theorem ready1 (k : Dsk) (s : List UInt8) (hs : s.length ≤ 100000) (w : World) (h : Dk w k) :
    Calls Tryd.prog 71 #[ptr k.d, .slice (some ⟨w.heap.size, 0, none⟩) 1 1] (w.alloc (.cells #[.string (B s)] 9)) fun e w' => e = .returned (.int .i64 (rdyE k [s])) ∧ w.alloc (.cells #[.string (B s)] 9) = w' :=
  ready_any k [s] _ 1 _ (h.old (old_alloc _ _)) (strs_one w s hs) (by simp)

set_option maxHeartbeats 1000000 in
theorem find_any (k : Dsk) (s : List UInt8) (hs : s.length ≤ 100000) (w : World) (h : Dk w k) :
    Calls Tryd.prog 49 #[ptr k.d, .string (B s)] w fun e w' => e = .returned (.tuple #[fndP k s, .int .i64 (fndE k s)]) ∧ Old w w' := by
  have hr := ready1 k s hs w h
  have hk2 := h.old (old_alloc w (.cells #[.string (B s)] 9))
  have c1 := hk2.disk.at_ 1 rfl
  have hlook := hk2.look s hs
  have HO := Lib.hid (old_alloc w (.cells #[.string (B s)] 9))
  clear hk2 h
  unfold fndE fndP
  by_cases h1 : rdyE k [s] = 0
  · rw [if_neg (by simpa using h1), if_neg (by simpa using h1)]
    rw [h1] at hr
    have HR := Lib.hid hr
    clear hr h1
    unfold fptr at hlook ⊢
    cases hf : fnd k.files s with
    | none =>
      rw [hf] at hlook
      go_enter Tryd.func49, Tryd.ntmps49
      go_wp2_with fail
      refine HR.out.mono ?_
      rintro e w1 ⟨rfl, rfl⟩
      go_wp2
      go_ret2
      exact ⟨rfl, HO.out⟩
    | some f =>
      rw [hf] at hlook
      go_enter Tryd.func49, Tryd.ntmps49
      go_wp2_with fail
      refine HR.out.mono ?_
      rintro e w1 ⟨rfl, rfl⟩
      go_wp2
      go_ret2
      exact ⟨rfl, HO.out⟩
  · rw [if_pos h1, if_pos h1]
    have HR := Lib.hid hr
    clear hr hlook c1
    go_enter Tryd.func49, Tryd.ntmps49
    go_wp2_with fail
    refine HR.out.mono ?_
    rintro e w1 ⟨rfl, rfl⟩
    go_wp2
    go_ret2
    exact ⟨rfl, HO.out⟩
end Go.Proofs.YtilimfbjkgeciaaDoor
