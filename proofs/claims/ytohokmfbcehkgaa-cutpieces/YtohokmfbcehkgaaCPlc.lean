/-
  Borders and Place of the reference. Conditions: lengths as written.
-/
import Derived.Test.YtohokmfbcehkgaaCStr
namespace Go.Proofs.Ytohokmfbcehkgaa
open Go.RowKit

set_option maxHeartbeats 4000000 in
theorem rborders_any (w : World) (A : Option Addr) (cap : Nat) (bs : List (List UInt8)) (hS : Strs w A cap bs) (hcap : bs.length ≤ 100000) :
    Calls Try.prog 15 #[.slice A bs.length cap] w fun e w' => e = .returned (.bool (bords bs)) ∧ Old w w' := by
  have HS := Lib.hid hS
  clear hS
  go_enter Try.func15, Try.ntmps15
  go_wp2_with fail
  go_loopw [3] (fun iv wr => ∃ k : Nat, iv = .int .i64 k ∧ k ≤ bs.length ∧ Old w wr ∧ Hid (∀ i, i < k → goodAt bs i = true)) (fun iv _ => bs.length - (intOf iv).toNat)
  case atStart => exact ⟨0, rfl, Nat.zero_le _, Old.re _, Lib.hid fun i hi => by omega⟩
  case round =>
    obtain ⟨k, rfl, hk, o1, HB⟩ := hrel
    by_cases hlt : k < bs.length
    · obtain ⟨t, HX⟩ : ∃ t, Hid (bs[k]? = some t) := ⟨bs[k], Lib.hid (List.getElem?_eq_getElem hlt)⟩
      obtain ⟨hln, b, off, rfl, hx⟩ := (HS.out.old o1).2 k t HX.out
      have HNo := Lib.hid (show goodAt bs k = false → bords bs = false from bords_no hlt)
      have HYes := Lib.hid (show goodAt bs k = true → ∀ i, i < k + 1 → goodAt bs i = true from fun h i hi => by
        rcases Nat.lt_or_ge i k with h1 | h1
        · exact HB.out i h1
        · rw [show i = k by omega]; exact h)
      have HG := Lib.hid (show goodAt bs k = (decide (1 ≤ t.length) && decide (t.length ≤ 40) && (k == 0 || Op.bytesLess (bs[k - 1]?.getD []) t)) by unfold goodAt; rw [HX.out]; rfl)
      have hw0 : IntKind.i64.wrap (k : Int) = (k : Int) := by rw [IntKind.wrap_i64]; omega
      have hb1 : (0 : Int) ≤ (k : Int) := by omega
      have hb2 : (k : Int) < (bs.length : Int) := by omega
      by_cases h1 : 1 ≤ t.length
      · have d1 : decide ((t.length : Int) < 1) = false := by simp; omega
        by_cases h2 : t.length ≤ 40
        · have d2 : decide ((40 : Int) < (t.length : Int)) = false := by simp; omega
          by_cases h3 : k = 0
          · subst h3
            have d3 : decide ((0 : Int) < ((0 : Nat) : Int)) = false := by decide
            clear HX hln
            rw [Nat.add_zero] at hx
            go_wp2_with fail
            go_quiet (fail)
            go_wp2
            go_roundw
            case rel => exact ⟨1, by go_num, by omega, by first | exact o1 | exact o1.dr | exact o1.dn _, Lib.hid (HYes.out (by rw [HG.out]; simp [h1, h2]))⟩
            case measure => simp [intOf]; omega
          · obtain ⟨q, rfl⟩ : ∃ q, k = q + 1 := ⟨k - 1, by omega⟩
            obtain ⟨s, HY⟩ : ∃ s, Hid (bs[q]? = some s) := ⟨bs[q], Lib.hid (List.getElem?_eq_getElem (by omega))⟩
            obtain ⟨-, b', off', he, hy⟩ := (HS.out.old o1).2 q s HY.out
            simp only [Option.some.injEq, Addr.mk.injEq, and_true] at he
            obtain ⟨rfl, rfl⟩ := he
            have HG2 := Lib.hid (show goodAt bs (q + 1) = Op.bytesLess s t by
              rw [HG.out, Nat.add_sub_cancel, HY.out]
              simp [h1, h2])
            have hw1 : IntKind.i64.wrap (((q + 1 : Nat) : Int) - 1) = (q : Int) := by rw [IntKind.wrap_i64]; omega
            have d3 : decide ((0 : Int) < ((q + 1 : Nat) : Int)) = true := by simp <;> omega
            have hb3 : (0 : Int) ≤ (q : Int) := by omega
            have hb4 : (q : Int) < (bs.length : Int) := by omega
            obtain ⟨d, hd⟩ : ∃ d, d = Op.bytesLess s t := ⟨_, rfl⟩
            have hd2 : Op.bytesLess s t = d := hd.symm
            rw [← hd] at HG2
            clear HX HY hln HG hd
            cases d with
            | true =>
              go_wp2_with fail
              go_quiet (fail)
              go_wp2
              go_roundw
              case rel => exact ⟨q + 1 + 1, by go_num, by omega, by first | exact o1 | exact o1.dr | exact o1.dn _, Lib.hid (HYes.out (by rw [HG2.out]))⟩
              case measure => simp [intOf]; omega
            | false =>
              go_wp2_with fail
              go_quiet (fail)
              go_wp2
              go_ret
              exact ⟨ret_bool (by rw [HNo.out (by rw [HG2.out])]), by first | exact o1 | exact o1.dr | exact o1.dn _⟩
        · have d2 : decide ((40 : Int) < (t.length : Int)) = true := by simp; omega
          clear HX hln
          go_wp2_with fail
          go_quiet (fail)
          go_wp2
          go_ret
          exact ⟨ret_bool (by rw [HNo.out (by rw [HG.out]; simp [h1, h2])]), by first | exact o1 | exact o1.dr | exact o1.dn _⟩
      · have d1 : decide ((t.length : Int) < 1) = true := by simp; omega
        clear HX hln
        go_wp2_with fail
        go_quiet (fail)
        go_wp2
        go_ret
        exact ⟨ret_bool (by rw [HNo.out (by rw [HG.out]; simp [h1])]), by first | exact o1 | exact o1.dr | exact o1.dn _⟩
    · obtain rfl : k = bs.length := by omega
      have HE := Lib.hid (bords_yes HB.out)
      clear HB
      go_wp2
      go_ret
      exact ⟨ret_bool HE.out.symm, o1⟩

set_option maxHeartbeats 4000000 in
theorem rplace_any (w : World) (A : Option Addr) (cap : Nat) (bs : List (List UInt8)) (r : List UInt8) (hS : Strs w A cap bs) (hcap : bs.length ≤ 100000) :
    Calls Try.prog 17 #[.slice A bs.length cap, .string (B r)] w fun e w' => e = .returned (.int .i64 (place bs r)) ∧ w' = w := by
  have HS := Lib.hid hS
  clear hS
  go_enter Try.func17, Try.ntmps17
  go_wp2_with fail
  go_loop [5, 6] (fun nv iv => ∃ k m : Nat, iv = .int .i64 k ∧ nv = .int .i64 m ∧ k ≤ bs.length ∧ m ≤ k ∧ Hid (m = place (bs.take k) r)) (fun _ iv => bs.length - (intOf iv).toNat)
  case atStart => exact ⟨0, 0, rfl, rfl, Nat.zero_le _, Nat.le_refl _, Lib.hid (by simp [place])⟩
  case round =>
    obtain ⟨k, m, rfl, rfl, hk, hm, HB⟩ := hrel
    by_cases hlt : k < bs.length
    · obtain ⟨t, HX⟩ : ∃ t, Hid (bs[k]? = some t) := ⟨bs[k], Lib.hid (List.getElem?_eq_getElem hlt)⟩
      obtain ⟨hln, b, off, rfl, hx⟩ := HS.out.2 k t HX.out
      have HP := Lib.hid (show place (bs.take (k + 1)) r = m + (if leT t r = true then 1 else 0) by
        rw [← take_at HX.out]
        unfold place
        rw [List.countP_append, List.countP_singleton, HB.out]
        rfl)
      obtain ⟨d, hd⟩ : ∃ d, d = leT t r := ⟨_, rfl⟩
      have hd2 : (Op.bytesLess t r || t == r) = d := hd.symm
      rw [← hd] at HP
      clear HX hln hd
      cases d with
      | true =>
        go_wp2
        go_round
        case rel => exact ⟨k + 1, m + 1, by go_num, by go_num, by omega, by omega, Lib.hid (by rw [HP.out]; rfl)⟩
        case measure => simp [intOf]; omega
      | false =>
        go_wp2
        go_round
        case rel => exact ⟨k + 1, m, by go_num, by go_num, by omega, by omega, Lib.hid (by rw [HP.out]; rfl)⟩
        case measure => simp [intOf]; omega
    · obtain rfl : k = bs.length := by omega
      have HE := Lib.hid (show m = place bs r by have := HB.out; rwa [List.take_length] at this)
      clear HB
      go_wp2
      go_ret
      exact ⟨ret_int (by rw [HE.out]), rfl⟩
end Go.Proofs.Ytohokmfbcehkgaa
