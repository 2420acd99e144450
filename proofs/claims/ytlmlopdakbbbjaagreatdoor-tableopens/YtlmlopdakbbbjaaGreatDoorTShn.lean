/-
  The statements' anchor and their bound, of layer 5: bounded; the nine cells. No conditions but those written.
-/
import Derived.Test.YtlmlopdakbbbjaaGreatDoorTStp
namespace Go.Proofs.YtlmlopdakbbbjaaGreatDoor
open Go.RowKit

def bdT (l : List Cel) : Bool := l.all bd1 && decide (l.length ≤ 60)
theorem bdT_no {l : List Cel} {c : Cel} (hc : c ∈ l) (h : bd1 c = false) : false = bdT l := by
  have : l.all bd1 = false := by rw [List.all_eq_false]; exact ⟨c, hc, by simp [h]⟩
  simp [bdT, this]
set_option maxHeartbeats 2000000 in
theorem bounded_any (b off cap : Nat) (l : List Cel) (w : World) (h : CelsAt w b off l) (hml : l.length ≤ maxLen) :
    Calls Tryz.prog 5 #[.slice (some ⟨b, off, none⟩) l.length cap] w fun e w' => e = .returned (.bool (bdT l)) ∧ w = w' := by
  have hmx : l.length ≤ 9223372036854775807 := by unfold maxLen at hml; omega
  clear hml
  go_enter Tryz.func5, Tryz.ntmps5
  go_wp2_with fail
  go_loop [3] (fun i => ∃ k : Nat, k ≤ l.length ∧ i = .int .i64 k ∧ Hid (∀ c ∈ l.take k, bd1 c = true)) (fun i => l.length - (intOf i).toNat)
  case atStart => exact ⟨0, by omega, rfl, Lib.hid (by simp)⟩
  case round =>
    obtain ⟨k, hk, rfl, HM⟩ := hrel
    by_cases h1 : k < l.length
    · have hx := h.at_ k h1
      have HT := Lib.hid (List.take_succ_eq_append_getElem h1)
      have HI := Lib.hid (List.getElem_mem h1)
      generalize l[k] = c at *
      obtain ⟨a0, a1, a2, a3, a4, a5⟩ := hx.held
      by_cases g1 : c.row.length ≤ 100
      case neg =>
        have d1 : decide ((100 : Int) < (c.row.length : Int)) = true := by simp; omega
        have HB := Lib.hid (bdT_no HI.out (show bd1 c = false by simp [bd1, g1]))
        go_wp2
        go_ret
        exact ⟨ret_bool HB.out, rfl⟩
      have d1 : decide ((100 : Int) < (c.row.length : Int)) = false := by simp; omega
      by_cases g2 : c.col.length ≤ 100
      case neg =>
        have d2 : decide ((100 : Int) < (c.col.length : Int)) = true := by simp; omega
        have HB := Lib.hid (bdT_no HI.out (show bd1 c = false by simp [bd1, g2]))
        go_wp2
        go_ret
        exact ⟨ret_bool HB.out, rfl⟩
      have d2 : decide ((100 : Int) < (c.col.length : Int)) = false := by simp; omega
      by_cases g3 : c.val.length ≤ 200
      case neg =>
        have d3 : decide ((200 : Int) < (c.val.length : Int)) = true := by simp; omega
        have HB := Lib.hid (bdT_no HI.out (show bd1 c = false by simp [bd1, g3]))
        go_wp2
        go_ret
        exact ⟨ret_bool HB.out, rfl⟩
      have d3 : decide ((200 : Int) < (c.val.length : Int)) = false := by simp; omega
      have HB := Lib.hid (bd1_yes g1 g2 g3)
      go_wp2
      go_round
      case rel =>
        refine ⟨k + 1, by omega, by go_num, Lib.hid ?_⟩
        intro d hd
        rw [HT.out, List.mem_append] at hd
        rcases hd with hd | hd
        · exact HM.out d hd
        · rw [List.mem_singleton.1 hd]; exact HB.out
      case measure => simp [intOf]; omega
    · have hkl : k = l.length := by omega
      have hall : l.all bd1 = true := by
        rw [List.all_eq_true]
        have := HM.out
        rwa [hkl, List.take_length] at this
      have HB := Lib.hid (show bdT l = decide (l.length ≤ 60) by simp [bdT, hall])
      clear hall HM
      go_wp2
      go_ret
      refine ⟨ret_bool ?_, rfl⟩
      rw [HB.out, Bool.eq_iff_iff]
      simp
      try omega
set_option maxHeartbeats 1000000 in
theorem bounded_none (A : Option Addr) (cap : Nat) (w : World) :
    Calls Tryz.prog 5 #[.slice A 0 cap] w fun e w' => e = .returned (.bool (bdT [])) ∧ w = w' := by
  go_enter Tryz.func5, Tryz.ntmps5
  go_wp2_with fail
  refine wp_loop_rounds 1 ?_
  rw [rounds_succ]
  go_wp2
  go_ret
  exact ⟨rfl, rfl⟩
theorem bounded_at (v : Value) (l : List Cel) (w : World) (h : Cels w v l) (hml : l.length ≤ maxLen) :
    Calls Tryz.prog 5 #[v] w fun e w' => e = .returned (.bool (bdT l)) ∧ w = w' := by
  rcases h with ⟨rfl, A, cap, rfl⟩ | ⟨b, off, cap, rfl, h⟩
  · exact bounded_none A cap w
  · exact bounded_any b off cap l w h hml
theorem bdT_len {l : List Cel} (h : bdT l = true) : l.length ≤ 60 := by
  unfold bdT at h
  rw [Bool.and_eq_true] at h
  simpa using h.2

theorem own_empty {w : World} {base g : Nat} (h : Bk w g 34 #[]) (hb : base ≤ g) : OwnC w base (.slice (some ⟨g, 0, none⟩) 0 0) [] :=
  ⟨rfl, .inr ⟨g, 0, #[], rfl, hb, h, Nat.le_refl _, by simp, rfl, rfl⟩⟩
def cel9 (k : Nat) : Cel := ⟨[UInt8.ofNat (97 + k / 3)], [99], 100 - k, 1, false, []⟩
def nine (k : Nat) : List Cel := (List.range k).map cel9
theorem nine_succ (k : Nat) : nine (k + 1) = nine k ++ [cel9 k] := by unfold nine; rw [List.range_succ, List.map_append]; rfl
set_option maxRecDepth 100000 in
set_option maxHeartbeats 4000000 in
theorem nine_any (w : World) : Calls Tryz.prog 13 #[.int .i64 9] w fun e w' => ∃ v, e = .returned v ∧ OwnC w' w.heap.size v (nine 9) ∧ Old w w' := by
  go_enter Tryz.func13, Tryz.ntmps13
  go_wp2_with fail
  go_loopw [3, 4] (fun v i wr => ∃ k : Nat, k ≤ 9 ∧ i = .int .i64 k ∧ OwnC wr w.heap.size v (nine k) ∧ Old w wr) (fun _ i _ => 9 - (intOf i).toNat)
  case atStart => exact ⟨0, Nat.zero_le _, rfl, own_empty (new_bk _ _ _) (Nat.le_refl _), old_alloc _ _⟩
  case round =>
    obtain ⟨k, hk, rfl, ho, hw⟩ := hrel
    by_cases hlt : k < 9
    · have hI : decide ((k : Int) < 9) = true := by simp; omega
      have hb8 : 97 + (k : Int) / 3 = ((UInt8.ofNat (97 + k / 3)).toNat : Int) := by rw [UInt8.toNat_ofNat']; omega
      have hB : Bk (wr.alloc (.cells #[.int .u8 (97 + (k : Int) / 3)] 5)) wr.heap.size 5 (bs [UInt8.ofNat (97 + k / 3)]).toArray := new_row1 wr _ _ hb8
      have hcv : (convert 56 9 (.slice (some ⟨wr.heap.size, 0, none⟩) 1 1)).run Tryz.prog (wr.alloc (.cells #[.int .u8 (97 + (k : Int) / 3)] 5)) = .ok (.string (B [UInt8.ofNat (97 + k / 3)])) (wr.alloc (.cells #[.int .u8 (97 + (k : Int) / 3)] 5)) := run_str (Own.blk (base := 0) (l := [UInt8.ofNat (97 + k / 3)]) (Nat.zero_le _) hB (by simp))
      have o1 := hw.al (.cells #[.int .u8 (97 + (k : Int) / 3)] 5)
      have ho1 := ho.old (old_alloc wr (.cells #[.int .u8 (97 + (k : Int) / 3)] 5))
      have e100 : (100 : Int) - (k : Int) = ((100 - k : Nat) : Int) := by omega
      have hnl : (nine k).length = k := by simp [nine]
      have HN := Lib.hid (nine_succ k)
      have HC := Lib.hid (show cel9 k = ⟨[UInt8.ofNat (97 + k / 3)], [99], 100 - k, 1, false, []⟩ from rfl)
      clear hb8 hB
      generalize UInt8.ofNat (97 + k / 3) = b0 at *
      go_wp2_with (at_builtin; refine wp_cels rfl (.tmp 11) (.tmp 22) rfl (W0 := w) (o1.al _) _ (nine k) [⟨[b0], [99], 100 - k, 1, false, []⟩] rfl (ho1.old (old_alloc _ _)) 0 _ rfl (own_one (c := ⟨[b0], [99], 100 - k, 1, false, []⟩) (new_bk1 wr _ _ _) (Nat.zero_le _)) (by simp only [List.length_cons, List.length_nil]; omega) ?_; intro v4 w4 n4 o4)
      rw [← HC.out, ← HN.out] at n4
      go_roundw
      case rel => exact ⟨k + 1, by omega, by go_num, n4, o4⟩
      case measure => simp [intOf]; omega
    · have e : k = 9 := by omega
      subst e
      go_wp2
      go_ret
      exact ⟨_, rfl, ho, hw⟩
end Go.Proofs.YtlmlopdakbbbjaaGreatDoor
