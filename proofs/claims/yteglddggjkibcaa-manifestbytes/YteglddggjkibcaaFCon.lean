/-
  Lists of files put together, and put in order. Conditions: lengths as written.
-/
import Derived.Test.YteglddggjkibcaaFSta
import Derived.Test.YteglddggjkibcaaFMap
import Derived.Lib.AppendZerosOnto
namespace Go.Proofs.Yteglddggjkibcaa
open Go.RowKit

/-- A slice of slices that reads as these lists of items. -/
def Lsts (w : World) (v : Value) (Ls : List (List Itm)) : Prop := (v = .slice none 0 0 ∧ Ls = []) ∨ ∃ A cap, v = .slice (some A) Ls.length cap ∧ Ls.length ≤ cap ∧ (Ls ≠ [] → ∃ b off, A = ⟨b, off, none⟩ ∧ ∀ (i : Nat) (L : List Itm), Ls[i]? = some L → ∃ u, w.cell? ⟨b, off + i, none⟩ = some u ∧ Itms w u L)
theorem Lsts.form {w : World} {v : Value} {Ls : List (List Itm)} (h : Lsts w v Ls) : ∃ A cap, v = .slice A Ls.length cap ∧ Ls.length ≤ cap := by
  rcases h with ⟨rfl, rfl⟩ | ⟨A, cap, h1, h2, h3⟩
  · exact ⟨none, 0, rfl, Nat.le_refl _⟩
  · exact ⟨_, _, h1, h2⟩
theorem Lsts.at_ {w : World} {A : Option Addr} {n cap : Nat} {Ls : List (List Itm)} (h : Lsts w (.slice A n cap) Ls) {i : Nat} {L : List Itm} (hx : Ls[i]? = some L) : ∃ b off u, A = some ⟨b, off, none⟩ ∧ w.cell? ⟨b, off + i, none⟩ = some u ∧ Itms w u L := by
  rcases h with ⟨h1, rfl⟩ | ⟨A', cap', h1, h2, h3⟩
  · simp at hx
  · obtain ⟨b, off, rfl, k⟩ := h3 (by rintro rfl; simp at hx)
    injection h1 with e1 e2 e3
    obtain ⟨u, h4, h5⟩ := k i L hx
    exact ⟨b, off, u, e1, h4, h5⟩
theorem Lsts.old {w w' : World} {v : Value} {Ls : List (List Itm)} (h : Lsts w v Ls) (o : Old w w') : Lsts w' v Ls := by
  rcases h with h | ⟨A, cap, h1, h2, h3⟩
  · exact .inl h
  · refine .inr ⟨A, cap, h1, h2, fun hl => ?_⟩
    obtain ⟨b, off, e, k⟩ := h3 hl
    refine ⟨b, off, e, fun i L hL => ?_⟩
    obtain ⟨u, h4, h5⟩ := k i L hL
    exact ⟨u, cell_old h4 o, h5.old o⟩

theorem zero_size (z : Array Value) (n : Nat) : (Builtin.zeroCells z n).size = n * z.size := by simp [Builtin.zeroCells]
set_option maxRecDepth 20000 in
set_option maxHeartbeats 4000000 in
theorem grow_nil (w : World) (n : Nat) (hn : n ≤ 100000) :
    Calls Try.prog 66 #[.slice none 0 0, .int .i64 (n : Int)] w fun e w' => ∃ u, e = .returned u ∧ Old w w' ∧ OwnE 60 w' w.heap.size u [] := by
  have h1 : ¬ ((n : Int) < 0) := by omega
  by_cases h0 : n = 0
  · subst h0
    go_enter Try.func66, Try.ntmps66
    go_wp2
    go_ret
    exact ⟨_, rfl, Old.re _, OwnE.nil _ _ _⟩
  · obtain ⟨i0, hi, hz0, hz1, hz2⟩ := info_parts Try.infoItem
    have hold : (Builtin.firstCells i0.size 0 (.slice none 0 0)).run Try.prog w.drew = .ok ([] : List Value).toArray w.drew := run_firstCells_none w.drew i0.size 0 0 0
    have hr : ∀ ty, (Builtin.append_ #[24, 3] ty #[.slice none 0 0, .int .i64 (n : Int)]).run Try.prog w = .ok (.slice (some ⟨w.heap.size, 0, none⟩) n (grownCap w n 0 60)) (w.drew.alloc (.cells (([] : List Value).toArray ++ Builtin.zeroCells (Value.agg zeroItem).cells n ++ Builtin.zeroCells (Value.agg zeroItem).cells (grownCap w n 0 60 - n)) 60)) := fun ty => by
      have h := Lib.run_append_grow_zeros w 24 3 ty 60 i0 (.agg zeroItem) .i64 .i64 Try.underlying24 Try.underlying3 hi hz0 none 0 0 [] hold n (by omega) (by omega) (by omega) (by omega) (by rw [hz2]; omega)
        (growslice_fits (by omega) (by rw [hz2]; omega))
      simpa using h
    have hG1 : n ≤ grownCap w n 0 60 := grownCap_ge w _ _ _
    have hG2 := grownCap_le_maxLen w n 0 60 (by unfold maxLen; omega)
    generalize grownCap w n 0 60 = G at *
    have hG3 : G ≤ 9223372036854775807 := by unfold maxLen at hG2; omega
    clear hold
    go_enter Try.func66, Try.ntmps66
    go_wp2_with (at_builtin; refine Lib.wpList_append_run _ rfl _ _ _ _ rfl _ _ rfl rfl _ _ (hr _) ?_)
    go_ret
    refine ⟨_, rfl, (Old.re w).dr.al _, ⟨rfl, .inr ⟨w.heap.size, G, _, rfl, Nat.le_refl _, new_bk w.drew _ _, Nat.zero_le _, hG2, ?_, by simp; rfl⟩⟩⟩
    simp [zero_size]
    omega

set_option maxHeartbeats 8000000 in
theorem concat_any (w : World) (v : Value) (Ls : List (List Itm)) (h : Lsts w v Ls) (hl : Ls.length ≤ 50000) (ht : Ls.flatten.length ≤ 49000) :
    Calls Try.prog 34 #[v] w fun e w' => ∃ u, e = .returned u ∧ Old w w' ∧ OwnE 60 w' w.heap.size u Ls.flatten := by
  obtain ⟨A, cap, rfl, hc⟩ := h.form
  have HI := Lib.hid h
  have HF : Hid (∀ k L, Ls[k]? = some L → (Ls.take (k + 1)).flatten.length = (Ls.take k).flatten.length + L.length ∧ (Ls.take k).flatten.length + L.length ≤ 49000) := Lib.hid fun k L hL => by
    have e1 : (Ls.take (k + 1)).flatten.length = (Ls.take k).flatten.length + L.length := by
      rw [← take_at hL, List.flatten_append, List.length_append]
      simp
    have h1 : Ls = Ls.take (k + 1) ++ Ls.drop (k + 1) := (List.take_append_drop _ _).symm
    have h2 := congrArg (fun l => l.flatten.length) h1
    simp only [List.flatten_append, List.length_append] at h2
    omega
  clear h
  go_enter Try.func34, Try.ntmps34
  go_wp2_with fail
  go_loopw [3, 11] (fun sv iv wr => ∃ k n : Nat, sv = .int .i64 n ∧ iv = .int .i64 k ∧ k ≤ Ls.length ∧ n ≤ 49000 ∧ w = wr ∧ Hid (n = (Ls.take k).flatten.length)) (fun _ iv _ => Ls.length - (intOf iv).toNat)
  case atStart => exact ⟨0, 0, rfl, rfl, Nat.zero_le _, by omega, rfl, Lib.hid rfl⟩
  case round =>
    obtain ⟨k, n, rfl, rfl, hk, hn, rfl, HN⟩ := hrel
    by_cases hlt : k < Ls.length
    · obtain ⟨L, HX⟩ : ∃ L, Hid (Ls[k]? = some L) := ⟨Ls[k], Lib.hid (List.getElem?_eq_getElem hlt)⟩
      obtain ⟨b, off, u, rfl, hu, hit⟩ := HI.out.at_ HX.out
      obtain ⟨A1, c1, rfl, -⟩ := hit.form
      have hb := HF.out k L HX.out
      rw [← HN.out] at hb
      have hb2 : n + L.length ≤ 49000 := hb.2
      have HN2 := Lib.hid (show n + L.length = (Ls.take (k + 1)).flatten.length from hb.1.symm)
      clear hb hit HX HN
      go_wp2
      go_round
      case rel => exact ⟨k + 1, n + L.length, by go_num, by go_num, by omega, hb2, by trivial, HN2⟩
      case measure => simp [intOf]; omega
    · obtain rfl : k = Ls.length := by omega
      have C := grow_nil w n (by omega)
      go_wp2_with fail
      refine C.mono ?_
      clear C
      rintro e w1 ⟨u1, rfl, o1, ow1⟩
      have HO0 := Lib.hid ow1
      clear ow1
      go_wp2_with fail
      go_loopw [6, 27] (fun ov iv wr => ∃ k : Nat, iv = .int .i64 k ∧ k ≤ Ls.length ∧ Old w wr ∧ Hid (OwnE 60 wr w.heap.size ov (Ls.take k).flatten)) (fun _ iv _ => Ls.length - (intOf iv).toNat)
      case atStart => exact ⟨0, rfl, Nat.zero_le _, o1, HO0⟩
      case round =>
        obtain ⟨k, rfl, hk, o2, HO⟩ := hrel
        by_cases hlt : k < Ls.length
        · obtain ⟨L, HX⟩ : ∃ L, Hid (Ls[k]? = some L) := ⟨Ls[k], Lib.hid (List.getElem?_eq_getElem hlt)⟩
          obtain ⟨b, off, u, rfl, hu, hit⟩ := (HI.out.old o2).at_ HX.out
          have HIT := Lib.hid hit
          obtain ⟨A1, c1, rfl, -⟩ := hit.form
          have HLN := Lib.hid (HF.out k L HX.out)
          clear hit
          go_wp2_with (at_builtin; refine wp_its rfl (.tmp 31) (.tmp 32) 24 60 Try.underlying24 Try.infoItem rfl (W0 := w) o2 _ _ L rfl HO.out _ rfl HIT.out (by have := HLN.out.2; omega) ?_; intro v8 w8 n8 o8; refine Hid.out ?_)
          have HO8 : Hid (OwnE 60 w8 w.heap.size v8 (Ls.take (k + 1)).flatten) := Lib.hid (by
            rw [← take_at HX.out, List.flatten_append]
            simpa using n8)
          clear n8 HO HX HIT HLN hu
          refine Lib.hid ?_
          go_wp2
          go_round
          case rel => exact ⟨k + 1, by go_num, by omega, o8, HO8⟩
          case measure => simp [intOf]; omega
        · obtain rfl : k = Ls.length := by omega
          go_wp2
          go_ret
          exact ⟨_, rfl, o2, by have := HO.out; rwa [List.take_length] at this⟩

theorem lsts_two {e : TypeId} {w : World} {g : Nat} {u v : Value} {l m : List Itm} (h : Bk w g e #[u, v]) (hu : Itms w u l) (hv : Itms w v m) : Lsts w (.slice (some ⟨g, 0, none⟩) 2 2) [l, m] := by
  refine .inr ⟨⟨g, 0, none⟩, 2, rfl, Nat.le_refl _, fun _ => ⟨g, 0, rfl, fun i L hL => ?_⟩⟩
  match i, hL with
  | 0, hL => simp at hL; subst hL; exact ⟨u, h.cell 0, hu⟩
  | 1, hL => simp at hL; subst hL; exact ⟨v, h.cell 1, hv⟩
set_option maxHeartbeats 1000000 in
theorem insertion_nil (w : World) :
    Calls Try.prog 75 #[.slice none 0 0, .int .i64 0, .int .i64 0, fA] w fun e w' => (∃ u, e = .returned u) ∧ Old w w' := by
  go_enter Try.func75, Try.ntmps75
  go_wp2_with fail
  refine wp_loop_rounds 1 ?_
  rw [rounds_succ]
  go_wp2
  exact bodyPost_end (results_none rfl _ _ _) rfl ⟨⟨_, rfl⟩, Old.re _⟩
set_option maxHeartbeats 1000000 in
theorem stable_nil (w : World) :
    Calls Try.prog 72 #[.slice none 0 0, .int .i64 0, fA] w fun e w' => (∃ u, e = .returned u) ∧ Old w w' := by
  go_enter Try.func72, Try.ntmps72
  go_wp2_with fail
  refine wp_loop_rounds 1 ?_
  rw [rounds_succ]
  go_wp2_with (go_at_call 75; refine (insertion_nil _).mono ?_; rintro e w' ⟨⟨u, rfl⟩, o1⟩)
  refine wp_loop_rounds 1 ?_
  rw [rounds_succ]
  go_wp2
  exact bodyPost_end (results_none rfl _ _ _) rfl ⟨⟨_, rfl⟩, o1⟩
set_option maxHeartbeats 1000000 in
theorem sortStable_nil (w : World) :
    Calls Try.prog 61 #[.slice none 0 0, fA] w fun e w' => (∃ u, e = .returned u) ∧ Old w w' := by
  go_enter Try.func61, Try.ntmps61
  go_wp2_with (go_at_call 72; refine (stable_nil _).mono ?_; rintro e w' ⟨⟨u, rfl⟩, h⟩)
  exact bodyPost_end (results_none rfl _ _ _) rfl ⟨⟨_, rfl⟩, h⟩
set_option maxHeartbeats 2000000 in
theorem inOrder_any (W0 w : World) (v : Value) (l : List Itm) (o : Old W0 w) (h : OwnE 60 w W0.heap.size v l) (hl : l.length ≤ 50000) :
    Calls Try.prog 33 #[v] w fun e w' => e = .returned v ∧ Old W0 w' ∧ ∃ M, Sim M l ∧ Srt M ∧ OwnE 60 w' W0.heap.size v M := by
  by_cases hv : v = .slice none 0 0
  · subst hv
    have hl0 : l = [] := by
      rcases h.seg with ⟨-, e⟩ | ⟨g, cap, r, e, -⟩
      · exact e
      · cases e
    subst hl0
    go_enter Try.func33, Try.ntmps33
    go_wp2_with (go_at_call 61; refine (sortStable_nil _).mono ?_; rintro e w1 ⟨⟨u, rfl⟩, o1⟩)
    go_ret
    exact ⟨rfl, o.tr o1, [], Sim.refl _, List.Pairwise.nil, OwnE.nil _ _ _⟩
  · obtain ⟨g, cap, r, rfl, hg, hc, hb, hr, hm⟩ := (show OwnN 60 w W0.heap.size v l from ⟨h, hv⟩).form
    have C := sortStable_any W0 w g cap l r o hg hb (by omega)
    clear h hb hv
    go_enter Try.func33, Try.ntmps33
    go_wp2_with (go_at_call 61; refine C.mono ?_; rintro e w1 ⟨⟨u, rfl⟩, o1, HS⟩)
    have HH := Lib.hid HS
    clear HS
    go_wp2
    go_ret
    obtain ⟨M, h1, h2, h3⟩ := HH.out
    have hlen := h1.len
    have hk := own_mk (e := 60) (cap := cap) h3 hg (by omega) (by omega) hm
    rw [hlen] at hk
    exact ⟨rfl, o1, M, h1, h2, hk.1⟩
end Go.Proofs.Yteglddggjkibcaa
