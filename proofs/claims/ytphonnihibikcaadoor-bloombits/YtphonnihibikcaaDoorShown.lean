/-
  The small case that must go well, and the bound of the names. Conditions: the table is laid; lengths as written.
-/
import Derived.Test.YtphonnihibikcaaDoorMake
namespace Go.Proofs.YtphonnihibikcaaDoor
open Go.RowKit

theorem small_size : sizeL 1 10 = 8 := by decide
theorem small_may : mayL (makeL [[97]] 10) [97] = true := by decide +kernel
theorem small_full : full (makeL [[97]] 10) = 4 := by decide +kernel
theorem makeL_length (names : List (List UInt8)) (b : Nat) : (makeL names b).length = sizeL names.length b := by
  unfold makeL
  rw [setAll_length, List.length_replicate]
theorem new_strs (w : World) (l : List UInt8) (hl : l.length ≤ 1000) : Strs (w.alloc (.cells #[.string (B l)] 9)) (some ⟨w.heap.size, 0, none⟩) 1 [l] := by
  refine ⟨Nat.le_refl _, fun i t ht => ?_⟩
  cases i with
  | succ i => simp at ht
  | zero =>
    simp at ht
    subst ht
    exact ⟨by unfold maxLen; omega, _, _, rfl, cell_of_one (heap_alloc_new w _)⟩

set_option maxHeartbeats 2000000 in
theorem shown_any (w : World) (h : Tab w) :
    Calls Tryd.prog 10 #[] w fun e w' => e = .returned (.bool true) ∧ Old w w' := by
  go_enter Tryd.func10, Tryd.ntmps10
  go_wp2_with fail
  have hmk := make_any [[97]] (some ⟨w.heap.size, 0, none⟩) 1 10 (by omega) (by omega) (by simp) (by simp) (w.alloc (.cells #[.string (B [97])] 9)) (new_strs w [97] (by simp)) (h.al _)
  refine hmk.mono ?_
  clear hmk
  rintro e w1 ⟨rfl, h1⟩
  have h2 := (old_alloc w _).tr h1
  have hl : (makeL [[97]] 10).length = 8 := (makeL_length _ _).trans small_size
  have HM := Lib.hid small_may
  have HF := Lib.hid small_full
  generalize makeL [[97]] 10 = f at *
  clear h1
  go_wp2_with fail
  refine (may_any f [97] (by omega) (by simp) _ (h.old h2)).mono ?_
  rintro e w3 ⟨rfl, h3⟩
  rw [HM.out]
  have h4 := h2.tr h3
  clear h2 h3
  go_wp2_with fail
  refine (full_any f (by omega) _).mono ?_
  rintro e w3 ⟨rfl, rfl⟩
  rw [HF.out]
  go_wp2_with fail
  refine (bits_any [97] (by simp) 64 (by omega) _ (h.old h4)).mono ?_
  rintro e w3 ⟨v, rfl, ho, h5⟩
  rcases ho.2 with ⟨rfl, hn⟩ | ⟨g', cap, cur, rfl, _⟩
  · exact absurd hn (by decide)
  have h6 := h4.tr h5
  have hp : (places [97] 64).length = 4 := by decide
  rw [hp]
  clear ho h5
  go_wp2
  go_ret
  exact ⟨rfl, h6⟩

def boundL (names : List (List UInt8)) : Bool := (names.all fun l => decide (l.length ≤ 200)) && decide (names.length ≤ 100)
theorem boundL_false (names : List (List UInt8)) (k : Nat) (hk : k < names.length) (h : 200 < names[k].length) : boundL names = false := by
  unfold boundL
  rw [Bool.and_eq_false_iff]
  left
  rw [List.all_eq_false]
  exact ⟨_, List.getElem_mem hk, by simp; omega⟩
theorem boundL_of (names : List (List UInt8)) (h : ∀ i (hi : i < names.length), names[i].length ≤ 200) : boundL names = decide (names.length ≤ 100) := by
  unfold boundL
  rw [show (names.all fun l => decide (l.length ≤ 200)) = true from ?_, Bool.true_and]
  rw [List.all_eq_true]
  intro l hl
  obtain ⟨i, hi, rfl⟩ := List.getElem_of_mem hl
  simpa using h i hi
theorem boundL_get {names : List (List UInt8)} (h : boundL names = true) : names.length ≤ 100 ∧ ∀ l ∈ names, l.length ≤ 200 := by
  unfold boundL at h
  rw [Bool.and_eq_true, List.all_eq_true] at h
  exact ⟨by simpa using h.2, fun l hl => by simpa using h.1 l hl⟩

set_option maxHeartbeats 2000000 in
theorem bounded_any (names : List (List UInt8)) (A : Option Addr) (cap : Nat) (w : World) (hS : Strs w A cap names) (hc : cap ≤ maxLen) :
    Calls Tryd.prog 9 #[.slice A names.length cap] w fun e w' => e = .returned (.bool (boundL names)) ∧ w = w' := by
  have hc2 : cap ≤ 9223372036854775807 := by unfold maxLen at hc; omega
  have hcn := hS.1
  go_enter Tryd.func9, Tryd.ntmps9
  go_wp2_with fail
  go_loop [3] (fun i => ∃ k : Nat, k ≤ names.length ∧ i = .int .i64 k ∧ ∀ j (hj : j < names.length), j < k → names[j].length ≤ 200) (fun i => names.length - (intOf i).toNat)
  case atStart => exact ⟨0, Nat.zero_le _, rfl, fun j hj h => by omega⟩
  case round =>
    obtain ⟨k, hk, rfl, hall⟩ := hrel
    by_cases hlt : k < names.length
    · obtain ⟨hm1, bb, off, rfl, hcl⟩ := hS.at_ k hlt
      by_cases hw : names[k].length ≤ 200
      · have HR := Lib.hid (show ∀ j (hj : j < names.length), j < k + 1 → names[j].length ≤ 200 by
          intro j hj h
          rcases Nat.lt_or_ge j k with h2 | h2
          · exact hall j hj h2
          · obtain rfl : j = k := by omega
            exact hw)
        clear hall
        go_wp2
        go_round
        case rel => exact ⟨k + 1, by omega, by go_num, HR.out⟩
        case measure => simp [intOf]; omega
      · have HB := Lib.hid (boundL_false names k hlt (by omega))
        clear hall
        go_wp2
        go_ret
        exact ⟨ret_bool HB.out.symm, rfl⟩
    · have HB := Lib.hid (boundL_of names (fun i hi => hall i hi (by omega)))
      clear hall
      go_wp2
      go_ret
      refine ⟨ret_bool ?_, rfl⟩
      rw [HB.out]
      exact decide_eq_decide.2 (by omega)
end Go.Proofs.YtphonnihibikcaaDoor
