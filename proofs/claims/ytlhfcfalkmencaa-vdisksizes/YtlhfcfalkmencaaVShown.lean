/-
  The small case that must go well, of whatever world. No conditions.
-/
import Derived.Test.YtlhfcfalkmencaaVSd
namespace Go.Proofs.Ytlhfcfalkmencaa
open Go.RowKit Go.Maps

theorem fndE_off {k : Dsk} {s : List UInt8} (h : k.up = false) : fndE k s = 6 := by
  unfold fndE rdyE
  simp [h]
set_option maxRecDepth 10000 in
set_option maxHeartbeats 4000000 in
theorem shown_any (w : World) : Calls Try.prog 8 #[] w fun e w' => e = .returned (.bool true) ∧ Old w w' := by
  go_enter Try.func8, Try.ntmps8
  go_wp2_with fail
  refine (new_sd 100 (by omega) w w (Old.re w)).mono ?_
  rintro e w1 ⟨d, m, rfl, s1⟩
  go_wp2_with fail
  refine (create_sd s1 [102] (by decide) rfl (by simp)).mono ?_
  rintro e w2 ⟨rfl, b, s2, -⟩
  rw [put_nil] at s2
  clear s1
  go_wp2_with fail
  refine (append_sd s2 [102] [97, 98] (by decide) (fnd_one _ _ _ _) (by rw [total_one]; decide)).mono ?_
  rintro e w3 ⟨rfl, s3⟩
  rw [set_one] at s3
  clear s2
  go_wp2_with fail
  refine (sync_sd s3 [102] (by decide) (fnd_one _ _ _ _)).mono ?_
  rintro e w4 ⟨rfl, s4⟩
  rw [set_one] at s4
  clear s3
  go_wp2_with fail
  refine (append_sd s4 [102] [99, 100] (by decide) (fnd_one _ _ _ _) (by rw [total_one]; decide)).mono ?_
  rintro e w5 ⟨rfl, s5⟩
  rw [set_one] at s5
  clear s4
  go_wp2_with fail
  refine (crash_sd s5 1).mono ?_
  rintro e w6 ⟨rfl, s6⟩
  have e6 : (one [102] b ([] ++ [97, 98] ++ [99, 100]) ([] ++ [97, 98] : List UInt8).length).map (crF 1) = one [102] b [97, 98, 99] 3 := by rfl
  rw [e6] at s6
  clear s5 e6
  have HR := Lib.hid (read_no _ [102] (by decide) w6 s6.dk (by rw [fndE_off rfl]; decide))
  rw [fndE_off rfl] at HR
  go_wp2_with fail
  refine HR.out.mono ?_
  rintro e w7 ⟨rfl, o7⟩
  have s7 := s6.go o7
  clear s6 o7 HR
  go_wp2_with fail
  refine (on_sd s7).mono ?_
  rintro e w8 ⟨rfl, s8⟩
  clear s7
  go_wp2_with fail
  refine (read_sd s8 [102] (by decide) (fnd_one _ _ _ _)).mono ?_
  rintro e w9 ⟨rfl, s9, -⟩
  clear s8
  go_wp2_with fail
  refine (size_sd s9).mono ?_
  rintro e w10 ⟨rfl, s10, -⟩
  go_wp2
  go_ret
  exact ⟨rfl, s10.old⟩
end Go.Proofs.Ytlhfcfalkmencaa
