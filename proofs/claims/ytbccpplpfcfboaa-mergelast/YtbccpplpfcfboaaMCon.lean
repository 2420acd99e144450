/-
  Concat: lists one behind the other. Conditions: lengths as written.
-/
import Derived.Test.YtbccpplpfcfboaaMIn
import Derived.Lib.AppendZerosOnto
namespace Go.Proofs.Ytbccpplpfcfboaa
open Go.RowKit

theorem zero_size (z : Array Value) (n : Nat) : (Builtin.zeroCells z n).size = n * z.size := by simp [Builtin.zeroCells]
set_option maxRecDepth 20000 in
set_option maxHeartbeats 4000000 in
theorem grow_nil (w : World) (n : Nat) (hn : n ≤ 100000) :
    Calls Try.prog 44 #[.slice none 0 0, .int .i64 (n : Int)] w fun e w' => ∃ u, e = .returned u ∧ Old w w' ∧ OwnE 59 w' w.heap.size u [] := by
  have h1 : ¬ ((n : Int) < 0) := by omega
  by_cases h0 : n = 0
  · subst h0
    go_enter Try.func44, Try.ntmps44
    go_wp2
    go_ret
    exact ⟨_, rfl, Old.re _, OwnE.nil _ _ _⟩
  · obtain ⟨i0, hi, hz0, hz1, hz2⟩ := info_parts Try.infoItem
    have hold : (Builtin.firstCells i0.size 0 (.slice none 0 0)).run Try.prog w.drew = .ok ([] : List Value).toArray w.drew := run_firstCells_none w.drew i0.size 0 0 0
    have hr : ∀ ty, (Builtin.append_ #[32, 3] ty #[.slice none 0 0, .int .i64 (n : Int)]).run Try.prog w = .ok (.slice (some ⟨w.heap.size, 0, none⟩) n (grownCap w n 0 59)) (w.drew.alloc (.cells (([] : List Value).toArray ++ Builtin.zeroCells (Value.agg zeroItem).cells n ++ Builtin.zeroCells (Value.agg zeroItem).cells (grownCap w n 0 59 - n)) 59)) := fun ty => by
      have h := Lib.run_append_grow_zeros w 32 3 ty 59 i0 (.agg zeroItem) .i64 .i64 Try.underlying32 Try.underlying3 hi hz0 none 0 0 [] hold n (by omega) (by omega) (by omega) (by omega) (by rw [hz2]; omega)
        (growslice_fits (by omega) (by rw [hz2]; omega))
      simpa using h
    have hG1 : n ≤ grownCap w n 0 59 := grownCap_ge w _ _ _
    have hG2 := grownCap_le_maxLen w n 0 59 (by unfold maxLen; omega)
    generalize grownCap w n 0 59 = G at *
    have hG3 : G ≤ 9223372036854775807 := by unfold maxLen at hG2; omega
    clear hold
    go_enter Try.func44, Try.ntmps44
    go_wp2_with (at_builtin; refine Lib.wpList_append_run _ rfl _ _ _ _ rfl _ _ rfl rfl _ _ (hr _) ?_)
    go_ret
    refine ⟨_, rfl, (Old.re w).dr.al _, ⟨rfl, .inr ⟨w.heap.size, G, _, rfl, Nat.le_refl _, new_bk w.drew _ _, Nat.zero_le _, hG2, ?_, by simp; rfl⟩⟩⟩
    simp [zero_size]
    omega

set_option maxHeartbeats 8000000 in
theorem concat_any (w : World) (v : Value) (Ls : List (List Itm)) (h : Lsts w v Ls) (hl : Ls.length ≤ 50000) (ht : Ls.flatten.length ≤ 49000) :
    Calls Try.prog 32 #[v] w fun e w' => ∃ u, e = .returned u ∧ Old w w' ∧ OwnE 59 w' w.heap.size u Ls.flatten := by
  obtain ⟨A, cap, rfl, hc⟩ := h.form
  have HI := Lib.hid h
  have HF : Hid (∀ k L, Ls[k]? = some L → (Ls.take (k + 1)).flatten.length = (Ls.take k).flatten.length + L.length ∧ (Ls.take k).flatten.length + L.length ≤ 49000) := Lib.hid fun k L hL => by
    have e1 : (Ls.take (k + 1)).flatten.length = (Ls.take k).flatten.length + L.length := by
      rw [← take_at hL, List.flatten_append, List.length_append]
      simp
    have h1 : Ls = Ls.take (k + 1) ++ Ls.drop (k + 1) := (List.take_append_drop _ _).symm
    have h2 := congrArg (fun l => l.flatten.length) h1
    simp only [List.flatten_append, List.length_append] at h2
    omega
  clear h
  go_enter Try.func32, Try.ntmps32
  go_wp2_with fail
  go_loopw [3, 11] (fun sv iv wr => ∃ k n : Nat, sv = .int .i64 n ∧ iv = .int .i64 k ∧ k ≤ Ls.length ∧ n ≤ 49000 ∧ w = wr ∧ Hid (n = (Ls.take k).flatten.length)) (fun _ iv _ => Ls.length - (intOf iv).toNat)
  case atStart => exact ⟨0, 0, rfl, rfl, Nat.zero_le _, by omega, rfl, Lib.hid rfl⟩
  case round =>
    obtain ⟨k, n, rfl, rfl, hk, hn, rfl, HN⟩ := hrel
    by_cases hlt : k < Ls.length
    · obtain ⟨L, HX⟩ : ∃ L, Hid (Ls[k]? = some L) := ⟨Ls[k], Lib.hid (List.getElem?_eq_getElem hlt)⟩
      obtain ⟨b, off, u, rfl, hu, hit⟩ := HI.out.at_ HX.out
      obtain ⟨A1, c1, rfl, -⟩ := hit.form
      have hb := HF.out k L HX.out
      rw [← HN.out] at hb
      have hb2 : n + L.length ≤ 49000 := hb.2
      have HN2 := Lib.hid (show n + L.length = (Ls.take (k + 1)).flatten.length from hb.1.symm)
      clear hb hit HX HN
      go_wp2
      go_round
      case rel => exact ⟨k + 1, n + L.length, by go_num, by go_num, by omega, hb2, by trivial, HN2⟩
      case measure => simp [intOf]; omega
    · obtain rfl : k = Ls.length := by omega
      have C := grow_nil w n (by omega)
      go_wp2_with fail
      refine C.mono ?_
      clear C
      rintro e w1 ⟨u1, rfl, o1, ow1⟩
      have HO0 := Lib.hid ow1
      clear ow1
      go_wp2_with fail
      go_loopw [6, 27] (fun ov iv wr => ∃ k : Nat, iv = .int .i64 k ∧ k ≤ Ls.length ∧ Old w wr ∧ Hid (OwnE 59 wr w.heap.size ov (Ls.take k).flatten)) (fun _ iv _ => Ls.length - (intOf iv).toNat)
      case atStart => exact ⟨0, rfl, Nat.zero_le _, o1, HO0⟩
      case round =>
        obtain ⟨k, rfl, hk, o2, HO⟩ := hrel
        by_cases hlt : k < Ls.length
        · obtain ⟨L, HX⟩ : ∃ L, Hid (Ls[k]? = some L) := ⟨Ls[k], Lib.hid (List.getElem?_eq_getElem hlt)⟩
          obtain ⟨b, off, u, rfl, hu, hit⟩ := (HI.out.old o2).at_ HX.out
          have HIT := Lib.hid hit
          obtain ⟨A1, c1, rfl, -⟩ := hit.form
          have HLN := Lib.hid (HF.out k L HX.out)
          clear hit
          go_wp2_with (at_builtin; refine wp_its rfl (.tmp 31) (.tmp 32) 32 59 Try.underlying32 Try.infoItem rfl (W0 := w) o2 _ _ L rfl HO.out _ rfl HIT.out (by have := HLN.out.2; omega) ?_; intro v8 w8 n8 o8; refine Hid.out ?_)
          have HO8 : Hid (OwnE 59 w8 w.heap.size v8 (Ls.take (k + 1)).flatten) := Lib.hid (by
            rw [← take_at HX.out, List.flatten_append]
            simpa using n8)
          clear n8 HO HX HIT HLN hu
          refine Lib.hid ?_
          go_wp2
          go_round
          case rel => exact ⟨k + 1, by go_num, by omega, o8, HO8⟩
          case measure => simp [intOf]; omega
        · obtain rfl : k = Ls.length := by omega
          go_wp2
          go_ret
          exact ⟨_, rfl, o2, by have := HO.out; rwa [List.take_length] at this⟩
end Go.Proofs.Ytbccpplpfcfboaa
