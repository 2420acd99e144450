/-
  symMerge of a slice of items, where one of the parts has one item. Conditions: lengths as written.
-/
import Derived.Test.YteglddggjkibcaaFIns
namespace Go.Proofs.Yteglddggjkibcaa
open Go.RowKit

theorem cut_dn {P : Itm → Prop} (mono : ∀ y z, cmpI y z ≤ 0 → P z → P y) {l : List Itm} {k : Nat} (hs : Srt l) (h : 0 < k → ∃ z, l[k - 1]? = some z ∧ P z) : ∀ y ∈ l.take k, P y := by
  intro y hy
  obtain ⟨i, hi, rfl⟩ := List.mem_iff_getElem.1 hy
  have hi2 : i < k ∧ i < l.length := by simp at hi; omega
  obtain ⟨z, hz, hP⟩ := h (by omega)
  obtain ⟨hk, rfl⟩ := List.getElem?_eq_some_iff.1 hz
  rw [List.getElem_take]
  by_cases he : i = k - 1
  · subst he; exact hP
  · exact mono _ _ (List.pairwise_iff_getElem.1 hs i (k - 1) hi2.2 hk (by omega)) hP
theorem cut_up {P : Itm → Prop} (mono : ∀ y z, cmpI y z ≤ 0 → P y → P z) {l : List Itm} {k : Nat} (hs : Srt l) (h : k < l.length → ∃ z, l[k]? = some z ∧ P z) : ∀ y ∈ l.drop k, P y := by
  intro y hy
  obtain ⟨i, hi, rfl⟩ := List.mem_iff_getElem.1 hy
  have hi2 : k + i < l.length := by simp at hi; omega
  obtain ⟨z, hz, hP⟩ := h (by omega)
  obtain ⟨hk, rfl⟩ := List.getElem?_eq_some_iff.1 hz
  rw [List.getElem_drop]
  by_cases he : i = 0
  · subst he; exact hP
  · exact mono _ _ (List.pairwise_iff_getElem.1 hs k (k + i) hk hi2 (by omega)) hP
theorem lt_dn (x : Itm) : ∀ y z, cmpI y z ≤ 0 → cmpI z x < 0 → cmpI y x < 0 := fun _ _ h1 h2 => cmpI_le_lt h1 h2
theorem lt_up (x : Itm) : ∀ y z, cmpI y z ≤ 0 → 0 ≤ cmpI y x → 0 ≤ cmpI z x := fun y z h1 h2 => by
  by_cases h3 : cmpI z x < 0
  · have := cmpI_le_lt h1 h3; omega
  · omega
theorem gt_up (x : Itm) : ∀ y z, cmpI y z ≤ 0 → cmpI x y < 0 → cmpI x z < 0 := fun _ _ h1 h2 => cmpI_lt_le h2 h1
theorem gt_dn (x : Itm) : ∀ y z, cmpI y z ≤ 0 → 0 ≤ cmpI x z → 0 ≤ cmpI x y := fun y z h1 h2 => by
  by_cases h3 : cmpI x y < 0
  · have := cmpI_lt_le h3 h1; omega
  · omega
theorem seg_in {w : World} {g : Nat} {H B T : List Itm} {r : List Value} (h : Seg w g (H ++ B ++ T) r) {i k : Nat} {z : Itm} (hz : B[k]? = some z) (hi : i = H.length + k) : At5 w g (i * 5) z := by
  subst hi
  refine h.at_ ?_
  have hk := (List.getElem?_eq_some_iff.1 hz).1
  rw [List.getElem?_append_left (by simp; omega), List.getElem?_append_right (by omega)]
  simpa using hz

set_option maxRecDepth 100000 in
set_option maxHeartbeats 4000000 in
theorem sym_left (W0 w : World) (g cap n a m b : Nat) (H : List Itm) (x : Itm) (L T : List Itm) (r : List Value) (o : Old W0 w) (hg : W0.heap.size ≤ g) (hs : Seg w g (H ++ x :: L ++ T) r)
    (hn : n = (H ++ x :: L ++ T).length) (ha : a = H.length) (hm : m = a + 1) (hb : b = m + L.length) (hmax : n ≤ 100000) (hL : Srt L) (hL1 : 1 ≤ L.length) :
    Calls Try.prog 76 #[.slice (some ⟨g, 0, none⟩) n cap, .int .i64 a, .int .i64 m, .int .i64 b, fA] w fun e w' => (∃ u, e = .returned u) ∧ Old W0 w' ∧ ∃ M, Sim M (x :: L) ∧ Srt M ∧ Seg w' g (H ++ M ++ T) r := by
  have q0 : a + 1 ≤ m := by omega
  have q4 : m ≤ a + 1 := by omega
  have hE : ((m : Int) - (a : Int) == 1) = true := by simp; omega
  have q1 : m < b := by omega
  have q2 : b ≤ n := by rw [hn]; simp; omega
  have HS := Lib.hid hs
  have HN := Lib.hid (And.intro hn (And.intro ha (And.intro hb hL)))
  clear hn ha hb hs hL hL1 hm
  go_enter Try.func76, Try.ntmps76
  go_wp2_with fail
  go_loopw [10, 11] (fun iv jv wr => ∃ (i j : Nat), iv = .int .i64 i ∧ jv = .int .i64 j ∧ m ≤ i ∧ i ≤ j ∧ j ≤ b ∧ Old W0 wr ∧ Hid ((0 < i - m → ∃ z, L[i - m - 1]? = some z ∧ cmpI z x < 0) ∧ (j - m < L.length → ∃ z, L[j - m]? = some z ∧ 0 ≤ cmpI z x)) ∧ Hid (Seg wr g (H ++ x :: L ++ T) r)) (fun iv jv _ => (intOf jv).toNat - (intOf iv).toNat)
  case atStart =>
    obtain ⟨hn, ha, hb, hL⟩ := HN.out
    exact ⟨m, b, by go_num, by go_num, by omega, by omega, by omega, o, Lib.hid ⟨by omega, by omega⟩, HS⟩
  case round =>
    obtain ⟨i, j, rfl, rfl, hi1, hij, hj1, o1, HM, HS1⟩ := hrel
    by_cases hlt : i < j
    · obtain ⟨h, hh⟩ : ∃ h, h = (i + j) / 2 := ⟨_, rfl⟩
      have hh1 : i ≤ h := by omega
      have hh2 : h < j := by omega
      have hh3 : (((i : Int) + j) / 2) = (h : Int) := by omega
      clear hh
      obtain ⟨z, HZ⟩ : ∃ z, Hid (L[h - m]? = some z ∧ At5 wr g (h * 5) z ∧ At5 wr g (a * 5) x) := by
        obtain ⟨hn, ha, hb, hL⟩ := HN.out
        have hk : h - m < L.length := by omega
        have s1 := HS1.out
        refine ⟨L[h - m], Lib.hid ⟨List.getElem?_eq_getElem hk, seg_in (H := H ++ [x]) (B := L) (T := T) (by simpa using s1) (List.getElem?_eq_getElem hk) (by simp; omega), seg_in (H := H) (B := x :: L) (T := T) s1 (k := 0) rfl (by omega)⟩⟩
      have hS := pr_of HZ.out.2.1 HZ.out.2.2
      have hb1 : (0 : Int) ≤ (h : Int) := by omega
      have hb2 : (h : Int) < (n : Int) := by omega
      have hb3 : (a : Int) < (n : Int) := by omega
      have hb4 : (0 : Int) ≤ (a : Int) := by omega
      go_wp2_with fail
      go_region_held3 (fun W => Old wr W ∧ W.cell? ⟨g, h * 5, none⟩ = some (.int .i64 z.lev) ∧ W.cell? ⟨g, h * 5 + 1, none⟩ = some (.string (B z.name)) ∧ W.cell? ⟨g, h * 5 + 2, none⟩ = some (.string (B z.low)) ∧ W.cell? ⟨g, h * 5 + 3, none⟩ = some (.string (B z.high)) ∧ W.cell? ⟨g, h * 5 + 4, none⟩ = some (.int .i64 z.many) ∧ W.cell? ⟨g, a * 5, none⟩ = some (.int .i64 x.lev) ∧ W.cell? ⟨g, a * 5 + 1, none⟩ = some (.string (B x.name)) ∧ W.cell? ⟨g, a * 5 + 2, none⟩ = some (.string (B x.low)) ∧ W.cell? ⟨g, a * 5 + 3, none⟩ = some (.string (B x.high)) ∧ W.cell? ⟨g, a * 5 + 4, none⟩ = some (.int .i64 x.many)) (first | exact ⟨hS.1.dr, hS.2⟩ | exact pr_old (by assumption) (by assumption))
        (first
          | (go_at_call 62; with_reducible refine (against_any z x _).mono ?_; rintro r w1 ⟨rfl, h1b⟩))
      rename_i hHeld
      have f9 : Old wr w1 := hHeld.1
      clear hS hHeld h1b
      have HS2 := Lib.hid (HS1.out.old f9)
      have o2 := o1.tr f9
      by_cases hxp : cmpI z x < 0
      · have hdec : decide (cmpI z x < 0) = true := by simpa using hxp
        have HM2 := Lib.hid (show (0 < h + 1 - m → ∃ z, L[h + 1 - m - 1]? = some z ∧ cmpI z x < 0) ∧ (j - m < L.length → ∃ z, L[j - m]? = some z ∧ 0 ≤ cmpI z x) from ⟨fun _ => ⟨z, by rw [show h + 1 - m - 1 = h - m by omega]; exact HZ.out.1, hxp⟩, HM.out.2⟩)
        rw [hdec]
        clear hdec hxp HS1 HM HZ f9 hb1 hb2 hb3 hb4 hh3
        go_wp2
        go_roundw
        case rel => exact ⟨h + 1, j, by go_num, by go_num, by omega, by omega, by omega, o2, HM2, HS2⟩
        case measure => simp [intOf]; omega
      · have hdec : decide (cmpI z x < 0) = false := by simpa using hxp
        have HM2 := Lib.hid (show (0 < i - m → ∃ z, L[i - m - 1]? = some z ∧ cmpI z x < 0) ∧ (h - m < L.length → ∃ z, L[h - m]? = some z ∧ 0 ≤ cmpI z x) from ⟨HM.out.1, fun _ => ⟨z, HZ.out.1, by omega⟩⟩)
        rw [hdec]
        clear hdec hxp HS1 HM HZ f9 hb1 hb2 hb3 hb4 hh3
        go_wp2
        go_roundw
        case rel => exact ⟨i, h, by go_num, by go_num, by omega, by omega, by omega, o2, HM2, HS2⟩
        case measure => simp [intOf]; omega
    · obtain rfl : i = j := by omega
      obtain ⟨U, V, HU⟩ : ∃ U V, Hid (U ++ V = L ∧ U.length = i - m ∧ (∀ y ∈ U, cmpI y x < 0) ∧ ∀ y ∈ V, 0 ≤ cmpI y x) := by
        obtain ⟨hn, ha, hb, hL⟩ := HN.out
        refine ⟨L.take (i - m), L.drop (i - m), Lib.hid ⟨List.take_append_drop _ _, by simp; omega, cut_dn (lt_dn x) hL HM.out.1, cut_up (lt_up x) hL HM.out.2⟩⟩
      clear HM
      go_wp2_with fail
      go_loopw [13] (fun kv wr => ∃ (k : Nat) (U1 U2 : List Itm), kv = .int .i64 k ∧ a ≤ k ∧ k + 1 ≤ i ∧ Old W0 wr ∧ Hid (U = U1 ++ U2 ∧ k = a + U1.length) ∧ Hid (Seg wr g (H ++ U1 ++ x :: U2 ++ V ++ T) r)) (fun kv _ => i - (intOf kv).toNat)
      case atStart =>
        exact ⟨a, [], U, by go_num, by omega, by omega, o1, Lib.hid ⟨rfl, by simp⟩, Lib.hid (by rw [← HU.out.1] at HS1; simpa using HS1.out)⟩
      case round =>
        clear HS1 o1
        obtain ⟨k, U1, U2, rfl, hk1, hk2, o1, HM, HS1⟩ := hrel
        by_cases hki : k + 1 < i
        · obtain ⟨v, V2, HV⟩ : ∃ v V2, Hid (U2 = v :: V2 ∧ k = (H ++ U1).length) := by
            obtain ⟨hn, ha, hb, hL⟩ := HN.out
            obtain ⟨e1, e2⟩ := HM.out
            obtain ⟨f1, f2, f3, f4⟩ := HU.out
            cases U2 with
            | nil => simp at e1; subst e1; omega
            | cons v V2 => exact ⟨v, V2, Lib.hid ⟨rfl, by simp; omega⟩⟩
          obtain ⟨HX, HSF⟩ : Hid (At5 wr g ((k + 1) * 5) v ∧ At5 wr g (k * 5) x) ∧ Hid (∀ _ : Unit, Seg (putI (putI wr g (k * 5) v) g ((k + 1) * 5) x) g (H ++ (U1 ++ [v]) ++ x :: V2 ++ V ++ T) r) := by
            obtain ⟨rfl, hq⟩ := HV.out
            have e : H ++ U1 ++ x :: (v :: V2) ++ V ++ T = (H ++ U1) ++ x :: v :: (V2 ++ V ++ T) := by simp
            have s1 := HS1.out
            rw [e] at s1
            obtain ⟨k1, k2, k3, k4⟩ := swap_adj (H ++ U1) (V2 ++ V ++ T) x v k hq
            refine ⟨Lib.hid ⟨s1.at_ k2, s1.at_ k1⟩, Lib.hid fun _ => ?_⟩
            have e2 : H ++ (U1 ++ [v]) ++ x :: V2 ++ V ++ T = (H ++ U1) ++ v :: x :: (V2 ++ V ++ T) := by simp
            rw [e2, ← k4]
            have l1 := (List.getElem?_eq_some_iff.1 k2).1
            exact (s1.put (by omega) v).put (by rw [List.length_set]; omega) x
          have HMf : Hid (U = (U1 ++ [v]) ++ V2 ∧ k + 1 = a + (U1 ++ [v]).length) := by
            obtain ⟨rfl, hq⟩ := HV.out
            obtain ⟨e1, e2⟩ := HM.out
            exact Lib.hid ⟨by simpa using e1, by simp; omega⟩
          have HFR := Lib.hid (show ∀ z, wr.frozen? ⟨g, z, none⟩ = false from fun z => Bk.fr HS1.out z)
          clear HM HV HS1
          go_upto_region 11 with (fail)
          obtain ⟨x0, x1, x2, x3, x4⟩ := HX.out.1.held
          obtain ⟨y0, y1, y2, y3, y4⟩ := HX.out.2.held
          have fr := HFR.out
          go_region
          have o3 := ((o1.putI hg (k * 5) v).putI hg ((k + 1) * 5) x).dr
          have hf := (HSF.out ()).drew
          unfold putI at o3 hf
          have HG := Lib.hid hf
          clear x0 x1 x2 x3 x4 y0 y1 y2 y3 y4 fr hf HSF HX HFR
          go_wp2
          go_round
          case rel => exact ⟨k + 1, U1 ++ [v], V2, by go_num, by omega, by omega, o3, HMf, HG⟩
          case measure => simp [intOf]; omega
        · have HE := Lib.hid (show ∃ M, Sim M (x :: L) ∧ Srt M ∧ Seg wr g (H ++ M ++ T) r by
            obtain ⟨hn, ha, hb, hL⟩ := HN.out
            obtain ⟨e1, e2⟩ := HM.out
            obtain ⟨f1, f2, f3, f4⟩ := HU.out
            have hU2 : U2 = [] := by
              have := congrArg List.length e1
              simp at this
              exact List.eq_nil_of_length_eq_zero (by omega)
            subst hU2
            simp at e1
            subst e1
            subst f1
            refine ⟨U ++ x :: V, ?_, srt_in hL (fun y hy => ?_) (fun y hy => Int.le_of_lt (f3 y hy)), by simpa using HS1.out⟩
            · have := (Sim.rot (a := [x]) (b := U) (by simpa using f3)).app (Sim.refl V)
              simpa using this
            · have h1 := f4 y hy
              have h2 := cmpI_neg y x
              omega)
          clear HM HS1 HU
          go_wp2
          refine bodyPost_ret (results_none rfl _ _ _) rfl ⟨⟨_, rfl⟩, o1, HE.out⟩
end Go.Proofs.Yteglddggjkibcaa
