/-
  The law's own small case; SameCells of one list read twice. Conditions: the program's variables hold what they hold.
-/
import Derived.Test.YtacniohflhpgaaaDoorPCel
namespace Go.Proofs.YtacniohflhpgaaaDoor
open Go.RowKit

abbrev sh1 : List UInt8 := [35, 32, 115, 97, 105, 100, 10, 114, 32, 99, 32, 53, 32, 61, 118, 10, 10, 114, 32, 100, 32, 52, 32, 45, 10]
abbrev sh2 : List UInt8 := [114, 32, 99, 32, 53, 32, 61, 118, 10, 114, 32, 99]
theorem sh1_L : outL sh1 = [⟨[114], [99], 5, 0, false, [118]⟩, ⟨[114], [100], 4, 0, true, []⟩] := by kernel_rfl
theorem sh1_N : outN sh1 = 0 := by decide +kernel
theorem sh1_E : outE sh1 = 0 := by decide +kernel
theorem sh2_N : outN sh2 = 2 := by decide +kernel
theorem sh2_E : outE sh2 = 70 := by decide +kernel
theorem eqCell (c : Cel) (w : World) : (binOp .eql 33 (cv c) (cv c)).run Tryd.prog w = .ok (.bool true) w := by
  go_simp
theorem neqCell (c : Cel) (w : World) : (binOp .neq 33 (cv c) (cv c)).run Tryd.prog w = .ok (.bool false) w := by
  go_simp

set_option maxHeartbeats 2000000 in
theorem shown_any (w : World) (hv : Env w) :
    Calls Tryd.prog 8 #[] w fun e w' => e = .returned (.bool true) ∧ Old w w' := by
  have C1 := cells_any sh1 w hv (by decide)
  have E := fun W => eqCell ⟨[114], [99], 5, 0, false, [118]⟩ W
  go_enter Tryd.func8, Tryd.ntmps8
  go_wp2_with (go_at_call 9; refine C1.mono ?_; rintro e w1 ⟨v, rfl, ho, o1⟩; refine Hid.out ?_)
  rw [sh1_L] at ho
  rw [sh1_N, sh1_E]
  have C2 := cells_any sh2 w1 (hv.old o1) (by decide)
  refine Lib.hid ?_
  obtain ⟨A0, n0, cap0, rfl⟩ := ho.form
  go_wp2_with (go_at_call 9; refine C2.mono ?_; rintro e w2 ⟨v2, rfl, ho2, o2⟩; refine Hid.out ?_)
  rw [sh2_N, sh2_E]
  obtain ⟨A2, n2, cap2, rfl⟩ := ho2.form
  rcases (ho.old o2).cels with ⟨h0, -⟩ | ⟨b, off, cap, e, hc⟩
  · cases h0
  · injection e with e1 e2 e3
    subst e1 e2 e3
    obtain ⟨a0, a1, a2, a3, a4, a5⟩ := (hc.at_ 0 (by decide)).held
    obtain ⟨b0, b1, b2, b3, b4, b5⟩ := (hc.at_ 1 (by decide)).held
    simp only [List.getElem_cons_zero, List.getElem_cons_succ, Nat.zero_mul, Nat.add_zero, Nat.one_mul] at a0 a1 a2 a3 a4 a5 b0 b1 b2 b3 b4 b5
    refine Lib.hid ?_
    go_wp2
    go_ret
    exact ⟨rfl, o1.tr o2⟩

set_option maxHeartbeats 2000000 in
theorem rsame_any (b off cap b' off' cap' : Nat) (l : List Cel) (w : World) (h : CelsAt w b off l) (h' : CelsAt w b' off' l) (hml : l.length ≤ 1000000) :
    Calls Tryd.prog 11 #[.slice (some ⟨b, off, none⟩) l.length cap, .slice (some ⟨b', off', none⟩) l.length cap'] w fun e w' => e = .returned (.bool true) ∧ Old w w' := by
  go_enter Tryd.func11, Tryd.ntmps11
  go_wp2_with fail
  go_loopw [5] (fun i wr => ∃ k : Nat, k ≤ l.length ∧ i = .int .i64 k ∧ Old w wr) (fun i _ => l.length - (intOf i).toNat)
  case atStart => exact ⟨0, by omega, rfl, Old.re _⟩
  case round =>
    obtain ⟨k, hk, rfl, hw⟩ := hrel
    by_cases h1 : k < l.length
    · have hx := (h.at_ k h1).old hw
      have hy := (h'.at_ k h1).old hw
      generalize l[k] = c at *
      obtain ⟨a0, a1, a2, a3, a4, a5⟩ := hx.held
      obtain ⟨b0, b1, b2, b3, b4, b5⟩ := hy.held
      have i1 : (k : Int) < (l.length : Int) := by omega
      have he := fun W => neqCell c W
      go_wp2_with fail
      go_quiet (fail)
      go_wp2
      go_roundw
      case rel => exact ⟨k + 1, by omega, by go_num, hw.dn _⟩
      case measure => simp [intOf]; omega
    · go_wp2
      go_ret
      exact ⟨rfl, hw⟩
set_option maxHeartbeats 1000000 in
theorem rsame_none (A A' : Option Addr) (cap cap' : Nat) (w : World) :
    Calls Tryd.prog 11 #[.slice A 0 cap, .slice A' 0 cap'] w fun e w' => e = .returned (.bool true) ∧ Old w w' := by
  go_enter Tryd.func11, Tryd.ntmps11
  go_wp2_with fail
  refine wp_loop_rounds 1 ?_
  rw [rounds_succ]
  go_wp2
  go_ret
  exact ⟨rfl, Old.re _⟩
theorem Cels.empty {w : World} {v : Value} (h : Cels w v []) : ∃ A cap, v = .slice A 0 cap := by
  rcases h with ⟨-, A, cap, rfl⟩ | ⟨b, off, cap, rfl, -⟩
  · exact ⟨A, cap, rfl⟩
  · exact ⟨_, cap, rfl⟩
theorem rsame_at (v v' : Value) (l : List Cel) (w : World) (h : Cels w v l) (h' : Cels w v' l) (hml : l.length ≤ 1000000) :
    Calls Tryd.prog 11 #[v, v'] w fun e w' => e = .returned (.bool true) ∧ Old w w' := by
  by_cases hl : l = []
  · subst hl
    obtain ⟨A, cap, rfl⟩ := h.empty
    obtain ⟨A', cap', rfl⟩ := h'.empty
    exact rsame_none A A' cap cap' w
  · rcases h with ⟨e, _⟩ | ⟨b, off, cap, rfl, h⟩
    · exact absurd e hl
    · rcases h' with ⟨e, _⟩ | ⟨b', off', cap', rfl, h'⟩
      · exact absurd e hl
      · exact rsame_any b off cap b' off' cap' l w h h' hml

end Go.Proofs.YtacniohflhpgaaaDoor
