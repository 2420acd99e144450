/-
  symMerge of a slice of items, where the second part has one item. Conditions: lengths as written.
-/
import Derived.Test.YteglddggjkibcaaFSyl
namespace Go.Proofs.Yteglddggjkibcaa
open Go.RowKit

set_option maxRecDepth 100000 in
set_option maxHeartbeats 4000000 in
theorem sym_right (W0 w : World) (g cap n a m b : Nat) (H : List Itm) (x : Itm) (L T : List Itm) (r : List Value) (o : Old W0 w) (hg : W0.heap.size ≤ g) (hs : Seg w g (H ++ L ++ x :: T) r)
    (hn : n = (H ++ L ++ x :: T).length) (ha : a = H.length) (hm : m = a + L.length) (hb : b = m + 1) (hmax : n ≤ 100000) (hL : Srt L) (hL1 : 2 ≤ L.length) :
    Calls Try.prog 76 #[.slice (some ⟨g, 0, none⟩) n cap, .int .i64 a, .int .i64 m, .int .i64 b, fA] w fun e w' => (∃ u, e = .returned u) ∧ Old W0 w' ∧ ∃ M, Sim M (L ++ [x]) ∧ Srt M ∧ Seg w' g (H ++ M ++ T) r := by
  have q0 : a + 2 ≤ m := by omega
  have q1 : m + 1 ≤ b := by omega
  have q4 : b ≤ m + 1 := by omega
  have hE : ((m : Int) - (a : Int) == 1) = false := by simp; omega
  have hE1 : ((b : Int) - (m : Int) == 1) = true := by simp; omega
  have q2 : b ≤ n := by rw [hn]; simp; omega
  have HS := Lib.hid hs
  have HN := Lib.hid (And.intro hn (And.intro ha (And.intro hm hL)))
  clear hn ha hb hs hL hL1 hm
  go_enter Try.func76, Try.ntmps76
  go_wp2_with fail
  go_loopw [14, 15] (fun iv jv wr => ∃ (i j : Nat), iv = .int .i64 i ∧ jv = .int .i64 j ∧ a ≤ i ∧ i ≤ j ∧ j ≤ m ∧ Old W0 wr ∧ Hid ((0 < i - a → ∃ z, L[i - a - 1]? = some z ∧ 0 ≤ cmpI x z) ∧ (j - a < L.length → ∃ z, L[j - a]? = some z ∧ cmpI x z < 0)) ∧ Hid (Seg wr g (H ++ L ++ x :: T) r)) (fun iv jv _ => (intOf jv).toNat - (intOf iv).toNat)
  case atStart =>
    obtain ⟨hn, ha, hm, hL⟩ := HN.out
    exact ⟨a, m, by go_num, by go_num, by omega, by omega, by omega, o, Lib.hid ⟨by omega, by omega⟩, HS⟩
  case round =>
    obtain ⟨i, j, rfl, rfl, hi1, hij, hj1, o1, HM, HS1⟩ := hrel
    by_cases hlt : i < j
    · obtain ⟨h, hh⟩ : ∃ h, h = (i + j) / 2 := ⟨_, rfl⟩
      have hh1 : i ≤ h := by omega
      have hh2 : h < j := by omega
      have hh3 : (((i : Int) + j) / 2) = (h : Int) := by omega
      clear hh
      obtain ⟨z, HZ⟩ : ∃ z, Hid (L[h - a]? = some z ∧ At5 wr g (m * 5) x ∧ At5 wr g (h * 5) z) := by
        obtain ⟨hn, ha, hm, hL⟩ := HN.out
        have hk : h - a < L.length := by omega
        have s1 := HS1.out
        refine ⟨L[h - a], Lib.hid ⟨List.getElem?_eq_getElem hk, seg_in (H := H ++ L) (B := x :: T) (T := []) (by simpa using s1) (k := 0) rfl (by simp; omega), seg_in (H := H) (B := L) (T := x :: T) s1 (List.getElem?_eq_getElem hk) (by omega)⟩⟩
      have hS := pr_of HZ.out.2.1 HZ.out.2.2
      have hb1 : (0 : Int) ≤ (h : Int) := by omega
      have hb2 : (h : Int) < (n : Int) := by omega
      have hb3 : (m : Int) < (n : Int) := by omega
      have hb4 : (0 : Int) ≤ (m : Int) := by omega
      go_wp2_with fail
      go_region_held3 (fun W => Old wr W ∧ W.cell? ⟨g, m * 5, none⟩ = some (.int .i64 x.lev) ∧ W.cell? ⟨g, m * 5 + 1, none⟩ = some (.string (B x.name)) ∧ W.cell? ⟨g, m * 5 + 2, none⟩ = some (.string (B x.low)) ∧ W.cell? ⟨g, m * 5 + 3, none⟩ = some (.string (B x.high)) ∧ W.cell? ⟨g, m * 5 + 4, none⟩ = some (.int .i64 x.many) ∧ W.cell? ⟨g, h * 5, none⟩ = some (.int .i64 z.lev) ∧ W.cell? ⟨g, h * 5 + 1, none⟩ = some (.string (B z.name)) ∧ W.cell? ⟨g, h * 5 + 2, none⟩ = some (.string (B z.low)) ∧ W.cell? ⟨g, h * 5 + 3, none⟩ = some (.string (B z.high)) ∧ W.cell? ⟨g, h * 5 + 4, none⟩ = some (.int .i64 z.many)) (first | exact ⟨hS.1.dr, hS.2⟩ | exact pr_old (by assumption) (by assumption))
        (first
          | (go_at_call 62; with_reducible refine (against_any x z _).mono ?_; rintro r w1 ⟨rfl, h1b⟩))
      rename_i hHeld
      have f9 : Old wr w1 := hHeld.1
      clear hS hHeld h1b
      have HS2 := Lib.hid (HS1.out.old f9)
      have o2 := o1.tr f9
      by_cases hxp : cmpI x z < 0
      · have hdec : decide (cmpI x z < 0) = true := by simpa using hxp
        have HM2 := Lib.hid (show (0 < i - a → ∃ z, L[i - a - 1]? = some z ∧ 0 ≤ cmpI x z) ∧ (h - a < L.length → ∃ z, L[h - a]? = some z ∧ cmpI x z < 0) from ⟨HM.out.1, fun _ => ⟨z, HZ.out.1, hxp⟩⟩)
        rw [hdec, Bool.not_true]
        clear hdec hxp HS1 HM HZ f9 hb1 hb2 hb3 hb4 hh3
        go_wp2
        go_roundw
        case rel => exact ⟨i, h, by go_num, by go_num, by omega, by omega, by omega, o2, HM2, HS2⟩
        case measure => simp [intOf]; omega
      · have hdec : decide (cmpI x z < 0) = false := by simpa using hxp
        have HM2 := Lib.hid (show (0 < h + 1 - a → ∃ z, L[h + 1 - a - 1]? = some z ∧ 0 ≤ cmpI x z) ∧ (j - a < L.length → ∃ z, L[j - a]? = some z ∧ cmpI x z < 0) from ⟨fun _ => ⟨z, by rw [show h + 1 - a - 1 = h - a by omega]; exact HZ.out.1, by omega⟩, HM.out.2⟩)
        rw [hdec, Bool.not_false]
        clear hdec hxp HS1 HM HZ f9 hb1 hb2 hb3 hb4 hh3
        go_wp2
        go_roundw
        case rel => exact ⟨h + 1, j, by go_num, by go_num, by omega, by omega, by omega, o2, HM2, HS2⟩
        case measure => simp [intOf]; omega
    · obtain rfl : i = j := by omega
      obtain ⟨U, V, HU⟩ : ∃ U V, Hid (U ++ V = L ∧ U.length = i - a ∧ V.length = m - i ∧ (∀ y ∈ U, 0 ≤ cmpI x y) ∧ ∀ y ∈ V, cmpI x y < 0) := by
        obtain ⟨hn, ha, hm, hL⟩ := HN.out
        refine ⟨L.take (i - a), L.drop (i - a), Lib.hid ⟨List.take_append_drop _ _, by simp; omega, by simp; omega, cut_dn (gt_dn x) hL HM.out.1, cut_up (gt_up x) hL HM.out.2⟩⟩
      clear HM
      go_wp2_with fail
      go_loopw [17] (fun kv wr => ∃ (k : Nat) (V1 V2 : List Itm), kv = .int .i64 k ∧ i ≤ k ∧ k ≤ m ∧ Old W0 wr ∧ Hid (V = V1 ++ V2 ∧ k = i + V1.length) ∧ Hid (Seg wr g (H ++ U ++ V1 ++ x :: V2 ++ T) r)) (fun kv _ => (intOf kv).toNat)
      case atStart =>
        exact ⟨m, V, [], by go_num, by omega, by omega, o1, Lib.hid ⟨by simp, by have := HU.out.2.2.1; omega⟩, Lib.hid (by rw [← HU.out.1] at HS1; simpa using HS1.out)⟩
      case round =>
        clear HS1 o1
        obtain ⟨k, V1, V2, rfl, hk1, hk2, o1, HM, HS1⟩ := hrel
        by_cases hki : i < k
        · obtain ⟨q, rfl⟩ : ∃ q, k = q + 1 := ⟨k - 1, by omega⟩
          obtain ⟨V3, p, HV⟩ : ∃ V3 p, Hid (V1 = V3 ++ [p] ∧ q = (H ++ U ++ V3).length) := by
            obtain ⟨hn, ha, hm, hL⟩ := HN.out
            obtain ⟨e1, e2⟩ := HM.out
            obtain ⟨f1, f2, f3, f4⟩ := HU.out
            rcases List.eq_nil_or_concat V1 with h | ⟨V3, p, h⟩
            · subst h; simp at e2; omega
            · refine ⟨V3, p, Lib.hid ⟨by simpa using h, ?_⟩⟩
              subst h
              simp at e2 ⊢; omega
          obtain ⟨HX, HSF⟩ : Hid (At5 wr g ((q + 1) * 5) x ∧ At5 wr g (q * 5) p) ∧ Hid (∀ _ : Unit, Seg (putI (putI wr g ((q + 1) * 5) p) g (q * 5) x) g (H ++ U ++ V3 ++ x :: (p :: V2) ++ T) r) := by
            obtain ⟨rfl, hq⟩ := HV.out
            have e : H ++ U ++ (V3 ++ [p]) ++ x :: V2 ++ T = (H ++ U ++ V3) ++ p :: x :: (V2 ++ T) := by simp
            have s1 := HS1.out
            rw [e] at s1
            obtain ⟨k1, k2, k3, k4⟩ := swap_adj (H ++ U ++ V3) (V2 ++ T) p x q hq
            refine ⟨Lib.hid ⟨s1.at_ k2, s1.at_ k1⟩, Lib.hid fun _ => ?_⟩
            have e2 : H ++ U ++ V3 ++ x :: (p :: V2) ++ T = (H ++ U ++ V3) ++ x :: p :: (V2 ++ T) := by simp
            rw [e2, ← k3]
            have l1 := (List.getElem?_eq_some_iff.1 k2).1
            exact (s1.put l1 p).put (by rw [List.length_set]; omega) x
          have HMf : Hid (V = V3 ++ (p :: V2) ∧ q = i + V3.length) := by
            obtain ⟨rfl, hq⟩ := HV.out
            obtain ⟨e1, e2⟩ := HM.out
            exact Lib.hid ⟨by simpa using e1, by simp at e2; omega⟩
          have HFR := Lib.hid (show ∀ z, wr.frozen? ⟨g, z, none⟩ = false from fun z => Bk.fr HS1.out z)
          clear HM HV HS1
          go_upto_region 23 with (fail)
          obtain ⟨x0, x1, x2, x3, x4⟩ := HX.out.1.held
          obtain ⟨y0, y1, y2, y3, y4⟩ := HX.out.2.held
          have fr := HFR.out
          go_region
          have o3 := ((o1.putI hg ((q + 1) * 5) p).putI hg (q * 5) x).dr
          have hf := (HSF.out ()).drew
          unfold putI at o3 hf
          have HG := Lib.hid hf
          clear x0 x1 x2 x3 x4 y0 y1 y2 y3 y4 fr hf HSF HX HFR
          go_wp2
          go_round
          case rel => exact ⟨q, V3, p :: V2, by go_num, by omega, by omega, o3, HMf, HG⟩
          case measure => simp [intOf]
        · have HE := Lib.hid (show ∃ M, Sim M (L ++ [x]) ∧ Srt M ∧ Seg wr g (H ++ M ++ T) r by
            obtain ⟨hn, ha, hm, hL⟩ := HN.out
            obtain ⟨e1, e2⟩ := HM.out
            obtain ⟨f1, f2, f3, f4, f5⟩ := HU.out
            have hV1 : V1 = [] := List.eq_nil_of_length_eq_zero (by omega)
            subst hV1
            simp at e1
            subst e1
            subst f1
            refine ⟨U ++ x :: V, ?_, srt_in hL (fun y hy => Int.le_of_lt (f5 y hy)) (fun y hy => ?_), by simpa using HS1.out⟩
            · have := (Sim.refl U).app (Sim.rot (a := V) (b := [x]) (by simpa using f5))
              simpa using this
            · have h1 := f4 y hy
              have h2 := cmpI_neg x y
              omega)
          clear HM HS1 HU
          go_wp2
          refine bodyPost_ret (results_none rfl _ _ _) rfl ⟨⟨_, rfl⟩, o1, HE.out⟩
end Go.Proofs.Yteglddggjkibcaa
