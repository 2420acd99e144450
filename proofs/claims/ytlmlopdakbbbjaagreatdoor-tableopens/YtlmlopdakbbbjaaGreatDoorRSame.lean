/-
  The reference's Build of whatever list that came in; SameCells of one list read twice. Conditions: as written.
-/
import Derived.Test.YtlmlopdakbbbjaaGreatDoorRBld
import Derived.Test.YtlmlopdakbbbjaaGreatDoorTSho
namespace Go.Proofs.YtlmlopdakbbbjaaGreatDoor
open Go.RowKit

set_option maxHeartbeats 1000000 in
theorem rbuild_none (A : Option Addr) (cap : Nat) (w : World) :
    Calls Tryz.prog 26 #[.slice A 0 cap] w fun e w' => e = .returned (buildV []) ∧ Old w w' := by
  have HV := Lib.hid (buildV_yes (l := []) rfl)
  go_enter Tryz.func26, Tryz.ntmps26
  go_wp2_with fail
  refine wp_loop_rounds 1 ?_
  rw [rounds_succ]
  go_wp2_with fail
  refine (rrising_none A cap w).mono ?_
  rintro e w1 ⟨rfl, hb⟩
  have hB := new_bk w1 5 (bs [0]).toArray
  have o2 := hb.al (.cells (bs [0]).toArray 5)
  have hcv : (convert 56 9 (.slice (some ⟨w1.heap.size, 0, none⟩) 1 1)).run Tryz.prog (w1.alloc (.cells (bs [0]).toArray 5)) = .ok (.string (B [0])) (w1.alloc (.cells (bs [0]).toArray 5)) := run_str (Own.blk (base := 0) (l := [0]) (Nat.zero_le _) hB (by simp))
  rw [show (bs [0]).toArray = #[.int .u8 0] from rfl] at hcv o2
  clear hB
  go_wp2_with fail
  refine wp_loop_rounds 1 ?_
  rw [rounds_succ]
  go_wp2
  go_ret2
  exact ⟨by rw [HV.out]; rfl, o2⟩
theorem rbuild_at (v : Value) (l : List Cel) (w : World) (h : Cels w v l) (hok : ∀ c ∈ l, c.ok) (hml : l.length ≤ 1000000000) :
    Calls Tryz.prog 26 #[v] w fun e w' => e = .returned (buildV l) ∧ Old w w' := by
  rcases h with ⟨rfl, A, cap, rfl⟩ | ⟨b, off, cap, rfl, h⟩
  · exact rbuild_none A cap w
  · exact rbuild_any b off cap l w h hok hml

theorem neqCell (c : Cel) (w : World) : (binOp .neq 34 (cv c) (cv c)).run Tryz.prog w = .ok (.bool false) w := by
  go_simp
set_option maxHeartbeats 2000000 in
theorem rsame_any (b off cap b' off' cap' : Nat) (l : List Cel) (w : World) (h : CelsAt w b off l) (h' : CelsAt w b' off' l) (hml : l.length ≤ 1000000) :
    Calls Tryz.prog 38 #[.slice (some ⟨b, off, none⟩) l.length cap, .slice (some ⟨b', off', none⟩) l.length cap'] w fun e w' => e = .returned (.bool true) ∧ Old w w' := by
  go_enter Tryz.func38, Tryz.ntmps38
  go_wp2_with fail
  go_loopw [5] (fun i wr => ∃ k : Nat, k ≤ l.length ∧ i = .int .i64 k ∧ Old w wr) (fun i _ => l.length - (intOf i).toNat)
  case atStart => exact ⟨0, by omega, rfl, Old.re _⟩
  case round =>
    obtain ⟨k, hk, rfl, hw⟩ := hrel
    by_cases h1 : k < l.length
    · have hx := (h.at_ k h1).old hw
      have hy := (h'.at_ k h1).old hw
      generalize l[k] = c at *
      obtain ⟨a0, a1, a2, a3, a4, a5⟩ := hx.held
      obtain ⟨b0, b1, b2, b3, b4, b5⟩ := hy.held
      have i1 : (k : Int) < (l.length : Int) := by omega
      have he := fun W => neqCell c W
      go_wp2_with fail
      go_quiet (fail)
      go_wp2
      go_roundw
      case rel => exact ⟨k + 1, by omega, by go_num, hw.dn _⟩
      case measure => simp [intOf]; omega
    · go_wp2
      go_ret
      exact ⟨rfl, hw⟩
set_option maxHeartbeats 1000000 in
theorem rsame_none (A A' : Option Addr) (cap cap' : Nat) (w : World) :
    Calls Tryz.prog 38 #[.slice A 0 cap, .slice A' 0 cap'] w fun e w' => e = .returned (.bool true) ∧ Old w w' := by
  go_enter Tryz.func38, Tryz.ntmps38
  go_wp2_with fail
  refine wp_loop_rounds 1 ?_
  rw [rounds_succ]
  go_wp2
  go_ret
  exact ⟨rfl, Old.re _⟩
theorem Cels.empty {w : World} {v : Value} (h : Cels w v []) : ∃ A cap, v = .slice A 0 cap := by
  rcases h with ⟨-, A, cap, rfl⟩ | ⟨b, off, cap, rfl, -⟩
  · exact ⟨A, cap, rfl⟩
  · exact ⟨_, cap, rfl⟩
theorem rsame_at (v v' : Value) (l : List Cel) (w : World) (h : Cels w v l) (h' : Cels w v' l) (hml : l.length ≤ 1000000) :
    Calls Tryz.prog 38 #[v, v'] w fun e w' => e = .returned (.bool true) ∧ Old w w' := by
  by_cases hl : l = []
  · subst hl
    obtain ⟨A, cap, rfl⟩ := h.empty
    obtain ⟨A', cap', rfl⟩ := h'.empty
    exact rsame_none A A' cap cap' w
  · rcases h with ⟨e, _⟩ | ⟨b, off, cap, rfl, h⟩
    · exact absurd e hl
    · rcases h' with ⟨e, _⟩ | ⟨b', off', cap', rfl, h'⟩
      · exact absurd e hl
      · exact rsame_any b off cap b' off' cap' l w h h' hml
end Go.Proofs.YtlmlopdakbbbjaaGreatDoor
