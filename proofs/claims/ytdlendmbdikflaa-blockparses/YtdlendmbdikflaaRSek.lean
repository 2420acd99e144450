/-
  The reference's Seek answers what the code's does. Condition: the text has at most 100000 bytes.
-/
import Derived.Test.YtdlendmbdikflaaRPrs
namespace Go.Proofs.Ytdlendmbdikflaa
open Go.RowKit

theorem seekN_take (l : List Cel) (q : List UInt8) (k : Nat) (h : k < l.length) : seekN (l.take (k + 1)) q = seekN (l.take k) q + (if Op.bytesLess (key l[k]) q = true then 1 else 0) := by
  rw [List.take_succ_eq_append_getElem h, seekN_snoc]

set_option maxRecDepth 100000 in
set_option maxHeartbeats 4000000 in
theorem rseek_any (s q : List UInt8) (hs : s.length ≤ 100000) (w : World) :
    Calls Try.prog 19 #[.string (B s), .string (B q)] w fun e W' => e = .returned (seekV s q) ∧ Old w W' := by
  go_enter Try.func19, Try.ntmps19
  go_wp2_with fail
  refine (rparse_any s hs _).mono ?_
  rintro e w1 ⟨v, rfl, hC, k1⟩
  cases hp : parseO s with
  | none =>
    rw [show parseE s = 50 by unfold parseE; rw [hp]]
    have HV := Lib.hid (show seekV s q = .tuple #[.int .i64 0, .int .i64 50] by unfold seekV; rw [hp])
    go_wp2
    go_ret2
    exact ⟨by rw [HV.out]; rfl, k1⟩
  | some l =>
    rw [show parseE s = 0 by unfold parseE; rw [hp]]
    have HV := Lib.hid (show seekV s q = .tuple #[.int .i64 (seekN l q : Nat), .int .i64 0] by unfold seekV; rw [hp])
    rw [hp, Option.getD_some] at hC
    obtain ⟨e1, hok, -⟩ := parseO_some hp
    obtain ⟨h255, hmay, -⟩ := errB_zero.1 e1
    have HOK := Lib.hid hok
    have HMY := Lib.hid hmay
    clear hp e1 hok hmay hs
    rcases hC with ⟨rfl, A, cap, rfl⟩ | ⟨b, off, cap, rfl, h⟩
    · go_wp2_with fail
      refine wp_loop_rounds 1 ?_
      rw [rounds_succ]
      go_wp2
      go_ret2
      exact ⟨by rw [HV.out]; rfl, k1⟩
    go_wp2_with fail
    go_loopw [8, 9] (fun n i wr => ∃ k : Nat, k ≤ l.length ∧ n = .int .i64 (seekN (l.take k) q : Nat) ∧ i = .int .i64 k ∧ Old w wr ∧ Old w1 wr) (fun _ i _ => l.length - (intOf i).toNat)
    case atStart => exact ⟨0, by omega, rfl, rfl, k1, Old.re _⟩
    case round =>
      obtain ⟨k, hk, rfl, rfl, hw, hw1⟩ := hrel
      by_cases h1 : k < l.length
      · have hx := (h.at_ k h1).old hw1
        have hm := HMY.out _ (List.getElem_mem h1)
        have ho := HOK.out _ (List.getElem_mem h1)
        have HS := Lib.hid (seekN_take l q k h1)
        have hsn : seekN (l.take k) q ≤ 255 := Nat.le_trans (seekN_le _ _) (by simp; omega)
        generalize l[k] = c at *
        obtain ⟨a0, a1, a2, a3, a4, a5⟩ := hx.held
        have i1 : (k : Int) < (l.length : Int) := by omega
        go_wp2_with fail
        refine (rkey_any c _ ho).mono ?_
        rintro e w3 ⟨rfl, k3⟩
        rw [show rkeyB c = key c by unfold rkeyB; rw [hm]; rfl]
        have o3 := hw.tr k3
        have o4 := hw1.tr k3
        cases hbl : Op.bytesLess (key c) q with
        | true =>
          go_wp2
          go_roundw
          case rel => exact ⟨k + 1, by omega, by rw [HS.out, if_pos hbl]; go_num, by go_num, o3, o4⟩
          case measure => simp [intOf]; omega
        | false =>
          go_wp2
          go_roundw
          case rel => exact ⟨k + 1, by omega, by rw [HS.out, hbl]; rfl, by go_num, o3, o4⟩
          case measure => simp [intOf]; omega
      · have hkl : k = l.length := by omega
        subst hkl
        rw [List.take_length]
        go_wp2
        go_ret2
        exact ⟨by rw [HV.out]; rfl, hw⟩
end Go.Proofs.Ytdlendmbdikflaa
