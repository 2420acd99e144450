/-
  WalKeeps: whatever acts come in, and wherever an Append is cut, the law answers true, and leaves all as it was. Condition: the table is laid as the program's text lays it.
-/
import Derived.Test.YtilimfbjkgeciaaDoorWMad
import Derived.StillTailTactics
import Derived.Deep.RegionHeldLaw
namespace Go.Proofs.YtilimfbjkgeciaaDoor
open Go.ChangeShapes Go.WideShapes Go.ChangeAt Go.RowKit Go.Joins Go.Deep Go.Maps Go.Shelf
set_option maxRecDepth 100000

/-- What an Append that may be cut comes to. -/
theorem append_cut {cap : Nat} {x : List UInt8} {T U : List (List UInt8)} (hx : Nm x) (hU : ∀ t ∈ U, t.length ≤ 65535) (hc : (puts T).length + (puts U).length ≤ cap) (many left : Nat) (keep : Int) :
    (∃ l k, pappendL x ⟨cap, [⟨x, puts T, (puts T).length⟩], true, left, keep⟩ many false U = ⟨⟨cap, [⟨x, puts (T ++ U), (puts (T ++ U)).length⟩], true, l, k⟩, many + U.length, false, 0⟩) ∨
    (∃ q, (puts T).length ≤ q ∧ pappendL x ⟨cap, [⟨x, puts T, (puts T).length⟩], true, left, keep⟩ many false U = ⟨⟨cap, [⟨x, (puts (T ++ U)).take q, q⟩], false, 0, 0⟩, many, true, 6⟩) := by
  unfold pappendL pchange
  rw [if_neg (by decide), wide_none hU, if_neg (by decide)]
  rcases play_cut hx hc left keep with ⟨l, k, h⟩ | ⟨q, hq, h⟩
  · left
    refine ⟨l, k, ?_⟩
    rw [h, puts_append]
    rfl
  · right
    refine ⟨q, hq, ?_⟩
    rw [h, puts_append]
    rfl
theorem Strs.take {w : World} {A : Option Addr} {cap : Nat} {l : List (List UInt8)} (h : Strs w A cap l) (n : Nat) : Strs w A cap (l.take n) := by
  refine ⟨?_, fun i t ht => ?_⟩
  · have := h.1; simp; omega
  · rw [List.getElem?_take] at ht
    split at ht
    · exact h.2 i t ht
    · cases ht

set_option maxHeartbeats 16000000 in
theorem law_keeps (l : List Ac) (A : Option Addr) (cap : Nat) (hcap : cap ≤ maxLen) (w : World) (ht : Tab w) (hS : Acts w A cap l) :
    Calls Tryd.prog 4 #[.slice A l.length cap] w fun e w' => e = .returned (.bool true) ∧ Old w w' := by
  have hlc := hS.1
  have hc2 : cap ≤ 2 ^ 63 - 1 := hcap
  by_cases hn : l.length ≤ 40
  case neg =>
    have d1 : decide ((40 : Int) < (l.length : Int)) = true := by simp; omega
    go_enter Tryd.func4, Tryd.ntmps4
    go_wp2_with (go_at_call 8; refine (shown_any _ ht).mono ?_; rintro e w1 ⟨rfl, k1⟩)
    go_ret
    exact ⟨rfl, k1⟩
  have d1 : decide ((40 : Int) < (l.length : Int)) = false := by simp; omega
  go_enter Tryd.func4, Tryd.ntmps4
  go_wp2_with fail
  refine (shown_any _ ht).mono ?_
  rintro e w1 ⟨rfl, k1⟩
  clear d1
  go_wp2_with fail
  refine (new_lw 1000000 (by omega) k1).mono ?_
  rintro e w2 ⟨d, rfl, h1, -⟩
  have H := open_ok (x := logN) h1 ht (by decide) (by decide) (open_none nmL)
  clear h1 k1
  go_wp2_with fail
  refine H.mono ?_
  clear H
  rintro e w3 ⟨lb, A0, cap0, rfl, h2, -, -, q1, -, q3, -, -⟩
  go_wp2_with fail
  have o3 := old_alloc w3 (.cells #[] 9)
  have HI0 := Lib.hid (show Lw w (w3.alloc (.cells #[] 9)) d (Ps 1000000 logN (puts [])) ∧ w.heap.size ≤ lb ∧ Lg (w3.alloc (.cells #[] 9)) lb d logN ([] : List (List UInt8)).length false ∧ OwnS (w3.alloc (.cells #[] 9)) w.heap.size (.slice (some ⟨w3.heap.size, 0, none⟩) 0 0) [] ∧ ([] : List (List UInt8)).length ≤ 10 * 0 ∧ ∀ t ∈ ([] : List (List UInt8)), t.length ≤ 200 from
    ⟨h2.go o3, q1, q3.old o3, owns_new w3 _ h2.old.size, Nat.zero_le _, fun t h => by cases h⟩)
  clear h2 q1 q3 o3
  go_loopw [4, 7, 8] (fun wl al i wr => ∃ (j lb : Nat) (T : List (List UInt8)), j ≤ l.length ∧ i = .int .i64 j ∧ wl = ptr lb ∧ (∃ tA tc, al = .slice tA T.length tc) ∧ Hid (Lw w wr d (Ps 1000000 logN (puts T)) ∧ w.heap.size ≤ lb ∧ Lg wr lb d logN T.length false ∧ OwnS wr w.heap.size al T ∧ T.length ≤ 10 * j ∧ ∀ t ∈ T, t.length ≤ 200)) (fun _ _ i _ => l.length - (intOf i).toNat)
  case atStart => exact ⟨0, lb, [], Nat.zero_le _, rfl, rfl, ⟨_, _, rfl⟩, HI0⟩
  case round =>
    clear HI0
    obtain ⟨j, lb, T, hj, rfl, rfl, ⟨tA, tc, rfl⟩, HI⟩ := hrel
    obtain ⟨h1, hq, q1, hO, hT, hs⟩ := HI.out
    have HQ := Lib.hid hq
    have HSM := Lib.hid (show ∀ t ∈ T, t.length ≤ 1000000 from fun t h => by have := hs t h; omega)
    have HSL := Lib.hid (show ∀ t ∈ T, t.length ≤ 65535 from fun t h => by have := hs t h; omega)
    have hpt := short_puts T hs
    clear hq
    by_cases hlt : j < l.length
    · obtain ⟨hok, bb, off, rfl, hac⟩ := hS.at_ j hlt
      have HAC := Lib.hid (fun (W : World) (o : Old w W) => hac.old o)
      clear hac
      generalize l[j] = x at *
      obtain ⟨kind, xn, xk, xt, xA, xc⟩ := x
      obtain ⟨hxn, hxS, hxc⟩ := hok
      simp only at hxS hxc hxn
      obtain ⟨c0, c1, c2, c3⟩ := HAC.out wr h1.old
      simp only at c0 c1 c2 c3
      have HB := bounded_any ⟨kind, xn, xk, xt, xA, xc⟩ hxc wr (hxS.old h1.old)
      simp only at HB
      cases hb : bnd xt with
      | false =>
        rw [hb] at HB
        have HSH := Lib.hid (fun (W : World) (o : Old wr W) => shown_any W (ht.old (h1.old.tr o)))
        clear hxn
        go_wp2_with fail
        refine HB.mono ?_
        rintro e w4 ⟨rfl, o4⟩
        go_wp2_with fail
        refine (HSH.out _ o4).mono ?_
        rintro e w5 ⟨rfl, o5⟩
        go_wp2
        go_ret
        exact ⟨rfl, (h1.old.tr o4).tr o5⟩
      | true =>
        rw [hb] at HB
        obtain ⟨hxl, hxs⟩ := bnd_yes hb
        have HXL := Lib.hid (show ∀ t ∈ xt, t.length ≤ 65535 from fun t h => by have := hxs t h; omega)
        have HXM := Lib.hid (show ∀ t ∈ xt, t.length ≤ 1000000 from fun t h => by have := hxs t h; omega)
        have hpx := short_puts xt hxs
        have HTS := Lib.hid (show ∀ t ∈ T ++ xt, t.length ≤ 200 from fun t h => by rcases List.mem_append.1 h with h | h; exact hs t h; exact hxs t h)
        have HXN := Lib.hid hxn
        clear hb hs hxs HI hxn
        go_wp2_with fail
        refine HB.mono ?_
        rintro e w4 ⟨rfl, o4⟩
        clear HB
        have h4 := h1.go o4
        have q4 := q1.old o4
        have hO4 := hO.old o4
        clear h1 q1 hO c0 c1 c2 c3
        obtain ⟨c0, c1, c2, c3⟩ := HAC.out w4 h4.old
        simp only at c0 c1 c2 c3
        obtain ⟨L, K, hf⟩ := fuse_up (p := Ps 1000000 logN (puts T)) rfl xn xk
        have HF := Lib.hid (fuse_lw (h4.go (Old.re _).dr) xn xk HXN.out)
        rw [hf] at HF
        clear hf
        go_wp2
        clear c0
        go_still_tail 11, (by kernel_rfl)
        change wpList _ _ _ _ _ w4.drew
        have q5 := q4.old (Old.re _).dr
        have hO5 := hO4.old (Old.re _).dr
        clear h4 q4 hO4 c1 c2 c3 o4
        generalize w4.drew = w5 at *
        go_wp2_with fail
        refine HF.out.mono ?_
        clear HF
        rintro e w6 ⟨rfl, h6, kr, kl⟩
        have q6 : Lg w6 lb d logN _ _ := kl (lb + 1) _ _ q5 (by omega)
        have hO6 := hO5.kr kr
        clear q5 hO5 kr kl
        obtain ⟨c0, c1, c2, c3⟩ := HAC.out w6 h6.old
        simp only at c0 c1 c2 c3
        rcases append_cut (cap := 1000000) (T := T) (U := xt) nmL HXL.out (by omega) T.length L K with ⟨l2, k2, hr⟩ | ⟨q, hqq, hr⟩
        · have H := append_ok' h6 ht HQ.out q6 (by decide) (by omega) (by omega) HXM.out (hxS.old h6.old) hr
          clear hr
          go_wp2_with fail
          refine H.mono ?_
          clear H
          rintro e w7 ⟨rfl, h7, q7, kr, -⟩
          have hO7 := hO6.kr kr
          clear h6 q6 hO6 kr c0 c1 c2 c3
          obtain ⟨c0, c1, c2, c3⟩ := HAC.out w7 h7.old
          simp only at c0 c1 c2 c3
          have hxS7 := hxS.old h7.old
          go_wp2_with (at_builtin; refine wp_strs rfl (.tmp 73) (.tmp 78) rfl h7.old _ T xt rfl hO7 xA xc rfl hxS7 (by omega) ?_; intro v8 w8 n8 o8 g8; refine Hid.out ?_)
          have h8 := h7.grown hO7 g8 o8
          have q8 : Lg w8 lb d logN _ _ := bk_grown hO7 g8 q7 (by decide)
          clear h7 q7 hO7 o8 g8 c0 c1 c2 c3 hxS7
          obtain ⟨tA2, tc2, rfl, -⟩ := n8.shape (fun t h => by have := HTS.out t h; omega)
          have HF := fuse_lw h8 0 0 (by omega)
          have hlen := (List.length_append : (T ++ xt).length = T.length + xt.length)
          refine Lib.hid ?_
          go_wp2_with fail
          refine HF.mono ?_
          clear HF
          rintro e w9 ⟨rfl, h9, kr, kl⟩
          have q9 : Lg w9 lb d logN _ _ := kl (lb + 1) _ _ q8 (by omega)
          rw [← hlen] at q9
          have HI2 := Lib.hid (show Lw w w9 d (Ps 1000000 logN (puts (T ++ xt))) ∧ w.heap.size ≤ lb ∧ Lg w9 lb d logN (T ++ xt).length false ∧ OwnS w9 w.heap.size (.slice tA2 (T ++ xt).length tc2) (T ++ xt) ∧ (T ++ xt).length ≤ 10 * (j + 1) ∧ ∀ t ∈ T ++ xt, t.length ≤ 200 from ⟨h9, HQ.out, q9, n8.kr kr, by omega, HTS.out⟩)
          clear h8 h9 n8 q8 q9 kr kl hlen
          generalize T ++ xt = T2 at *
          go_wp2
          go_roundw
          case rel => exact ⟨j + 1, lb, T2, by omega, by go_num, rfl, ⟨_, _, rfl⟩, HI2⟩
          case measure => simp [intOf]; omega
        · have H := append_ok' h6 ht HQ.out q6 (by decide) (by omega) (by omega) HXM.out (hxS.old h6.old) hr
          clear hr
          go_wp2_with fail
          refine H.mono ?_
          clear H
          rintro e w7 ⟨rfl, h7, -, kr, -⟩
          have hO7 := hO6.kr kr
          clear h6 q6 hO6 kr c0 c1 c2 c3
          go_wp2_with fail
          refine (on_lw h7).mono ?_
          rintro e w8 ⟨rfl, h8, kr, -⟩
          have hO8 := hO7.kr kr
          clear h7 hO7 kr
          have hlen := (List.length_append : (T ++ xt).length = T.length + xt.length)
          have hpp := puts_append T xt
          have hpl : (puts (T ++ xt)).length = (puts T).length + (puts xt).length := by rw [hpp, List.length_append]
          obtain ⟨m, m1, m2, hop⟩ := open_part (cap := 1000000) (n := q) (x := logN) (T := T ++ xt) nmL (fun t h => by have := HTS.out t h; omega) q (by omega)
          have m3 : T.length ≤ m := m2 T.length (by omega) (by rw [List.take_left', ← puts_len]; exact hqq; rfl)
          have H := open_ok (x := logN) h8 ht (by decide) (Nat.le_refl _) hop
          have HC := Lib.hid (List.take_append_drop m (T ++ xt))
          have hml : ((T ++ xt).take m).length = m := by rw [List.length_take]; omega
          have HTM := Lib.hid (show ∀ t ∈ (T ++ xt).take m, t.length ≤ 200 from fun t h => HTS.out t (List.mem_of_mem_take h))
          clear hop h8 hpp hpl m2
          generalize hM : (T ++ xt).take m = M at *
          have HM := Lib.hid hM
          have HME := Lib.hid hml
          clear hM hml
          go_wp2_with fail
          refine H.mono ?_
          clear H
          rintro e w9 ⟨lb2, A2, cap2, rfl, h9, kr, -, r1, -, q9, hS9, hO9'⟩
          have hO9 := hO8.kr kr
          clear hO8 kr
          obtain ⟨c0, c1, c2, c3⟩ := HAC.out w9 h9.old
          simp only at c0 c1 c2 c3
          have d1 : decide ((M.length : Int) < (T.length : Int)) = false := by have := HME.out; simp; omega
          have d2 : decide ((T.length : Int) + (xt.length : Int) < (M.length : Int)) = false := by have := HME.out; simp; omega
          have hTM : T.length ≤ M.length := by have := HME.out; omega
          have wr1 : IntKind.i64.wrap ((T.length : Int) + (xt.length : Int)) = (T.length : Int) + (xt.length : Int) := by rw [IntKind.wrap_i64]; omega
          go_wp2_with fail
          have HC3 := Lib.hid (fun (W : World) (o : Old w9 W) => cell_old c3 o)
          have hC := HC3.out w9 (Old.re w9)
          have HST := Lib.hid (fun (W : World) (o : Old w9 W) => (hO9.strs HSM.out).old o)
          have HXS9 := Lib.hid (fun (W : World) (o : Old w9 W) => (hxS.old h9.old).old o)
          have hlen2 : T.length + xt.length ≤ 100000 := by omega
          have hlen3 : ([] : List (List UInt8)).length + T.length ≤ 100000 := by simp; omega
          have hltI : (j : Int) < (l.length : Int) := by omega
          have HML := Lib.hid (show M.length ≤ 10 * (j + 1) by have := HME.out; omega)
          have hAx : True := trivial
          clear c0 c1 c2 c3 d1 d2 hTM wr1 hpt hpx hT hxl hj hqq m1 m3 hlen hxc hc2 hcap hlc
          refine wp_region_noPanic ?_
          refine wp_region_held_drew (S := fun W => Old w9 W ∧ W.cell? ⟨bb, off + j * 4 + 3, none⟩ = some (.slice xA xt.length xc)) (by kernel_rfl) ⟨(Old.re w9).dr, hC⟩ (fun hHeld => ?_)
          refine wpAnyH_take (i := 1) (oi := ?o1) (v := .slice tA T.length tc) ?h1 (by kernel_rfl) (by kernel_rfl) (by kernel_rfl) (fun _ _ _ h => h) ?y1 (by assumption) ?r1
          case h1 => (simp only [List.getElem?_toArray, List.getElem?_cons_zero, List.getElem?_cons_succ]; rfl)
          case y1 => exact Or.inl ⟨by rfl, by (intro W hSw; (try dsimp only at hSw); go_simp)⟩
          simp only [Act.put, List.setIfInBounds_toArray, List.set_cons_zero, List.set_cons_succ]
          refine wpAnyH_take (i := 3) (oi := ?o3) (v := .slice (some ⟨bb, off, none⟩) l.length cap) ?h3 (by kernel_rfl) (by kernel_rfl) (by kernel_rfl) (fun _ _ _ h => h) ?y3 (by assumption) ?r3
          case h3 => (simp only [List.getElem?_toArray, List.getElem?_cons_zero, List.getElem?_cons_succ]; rfl)
          case y3 => exact Or.inl ⟨by rfl, by (intro W hSw; (try dsimp only at hSw); go_simp)⟩
          simp only [Act.put, List.setIfInBounds_toArray, List.set_cons_zero, List.set_cons_succ]
          refine wpAnyH_take (i := 4) (oi := ?o4) (v := .int .i64 (j : Int)) ?h4 (by kernel_rfl) (by kernel_rfl) (by kernel_rfl) (fun _ _ _ h => h) ?y4 (by assumption) ?r4
          case h4 => (simp only [List.getElem?_toArray, List.getElem?_cons_zero, List.getElem?_cons_succ]; rfl)
          case y4 => exact Or.inl ⟨by rfl, by (intro W hSw; (try dsimp only at hSw); go_simp)⟩
          simp only [Act.put, List.setIfInBounds_toArray, List.set_cons_zero, List.set_cons_succ]
          refine wpAnyH_take (i := 5) (oi := ?o5) (v := .pointer (some ⟨bb, off + j * 4, none⟩)) ?h5 (by kernel_rfl) (by kernel_rfl) (by kernel_rfl) (fun _ _ _ h => h) ?y5 (by assumption) ?r5
          case h5 => (simp only [List.getElem?_toArray, List.getElem?_cons_zero, List.getElem?_cons_succ]; rfl)
          case y5 => exact Or.inl ⟨by rfl, by (intro W hSw; (try dsimp only at hSw); go_simp)⟩
          simp only [Act.put, List.setIfInBounds_toArray, List.set_cons_zero, List.set_cons_succ]
          refine wpAnyH_take (i := 6) (oi := ?o6) (v := .pointer (some ⟨bb, off + j * 4 + 3, none⟩)) ?h6 (by kernel_rfl) (by kernel_rfl) (by kernel_rfl) (fun _ _ _ h => h) ?y6 (by assumption) ?r6
          case h6 => (simp only [List.getElem?_toArray, List.getElem?_cons_zero, List.getElem?_cons_succ]; rfl)
          case y6 => exact Or.inl ⟨by rfl, by (intro W hSw; (try dsimp only at hSw); go_simp)⟩
          simp only [Act.put, List.setIfInBounds_toArray, List.set_cons_zero, List.set_cons_succ]
          refine wpAnyH_take (i := 7) (oi := ?o7) (v := .slice xA xt.length xc) ?h7 (by kernel_rfl) (by kernel_rfl) (by kernel_rfl) (fun _ _ _ h => h) ?y7 (by assumption) ?r7
          case h7 => (simp only [List.getElem?_toArray, List.getElem?_cons_zero, List.getElem?_cons_succ]; rfl)
          case y7 => exact Or.inl ⟨by rfl, by (intro W hSw; (try dsimp only at hSw); go_simp)⟩
          simp only [Act.put, List.setIfInBounds_toArray, List.set_cons_zero, List.set_cons_succ]
          clear hHeld
          have on1 := (Old.re w9).dr
          have od := Old.al on1 (.cells #[] 9)
          refine wpAnyH_ready (rs := [0]) (by kernel_rfl) (by simp) ?_
          refine AllReadyH.cons rfl (fun K hK => ?_) AllReadyH.nil
          go_simp
          refine hK.out _ _ ⟨od, HC3.out _ od⟩ (fun _ => ?_)
          clear hK
          have hown0 := owns_new w9.drew w9.heap.size (Nat.le_refl _)
          refine wpAnyH_ready (rs := [2]) (by kernel_rfl) (by simp) ?_
          refine AllReadyH.cons rfl (fun K hK => ?_) AllReadyH.nil
          refine step_strs rfl (some 123) rfl (.tmp 121) (.tmp 122) rfl (W0 := w9) od _ [] T rfl hown0 tA tc rfl (HST.out _ od) hlen3 ?_
          intro v1 w10 n1 o1 g1
          rw [List.nil_append] at n1
          refine hK.out _ _ ⟨o1, HC3.out _ o1⟩ (fun _ => ?_)
          clear hK od hown0
          refine wpAnyH_ready (rs := [8]) (by kernel_rfl) (by simp) ?_
          refine AllReadyH.cons rfl (fun K hK => ?_) AllReadyH.nil
          refine step_strs rfl (some 129) rfl (.tmp 123) (.tmp 128) rfl (W0 := w9) o1 v1 T xt rfl n1 xA xc rfl (HXS9.out _ o1) hlen2 ?_
          intro v2 w11 n2 o2 g2
          refine hK.out _ _ ⟨o2, HC3.out _ o2⟩ (fun _ => ?_)
          clear hK o1 n1 g1 on1
          refine wpAnyH_ready (rs := [9]) (by kernel_rfl) (by simp) ?_
          refine AllReadyH.cons rfl (fun K hK => ?_) AllReadyH.nil
          go_simp
          refine hK.out _ _ ⟨o2, HC3.out _ o2⟩ (fun _ => ?_)
          clear hK
          refine wpAnyH_done (by kernel_rfl) ?_ _
          refine NoPanic.normal ?_
          have HI2 := Lib.hid (show Lw w w11 d (Ps 1000000 logN (puts M)) ∧ w.heap.size ≤ lb2 ∧ Lg w11 lb2 d logN M.length false ∧ OwnS w11 w.heap.size (.slice A2 M.length cap2) M ∧ M.length ≤ 10 * (j + 1) ∧ ∀ t ∈ M, t.length ≤ 200 from ⟨h9.go o2, r1, q9.old o2, hO9'.old o2, HML.out, HTM.out⟩)
          have HMM := Lib.hid (show ∀ t ∈ M, t.length ≤ 1000000 from fun t h => by have := HTM.out t h; omega)
          have HTT := Lib.hid (show ∀ t ∈ T ++ xt, t.length ≤ 1000000 from fun t h => by have := HTS.out t h; omega)
          have HMT := Lib.hid (show M.length ≤ (T ++ xt).length by rw [← HM.out, List.length_take]; exact Nat.min_le_right _ _)
          have HMT2 := Lib.hid (show M = (T ++ xt).take M.length by rw [HME.out]; exact HM.out.symm)
          have hMl : M.length ≤ 100000 := by have := HMT.out; rw [List.length_append] at this; omega
          have hS11 := hS9.old o2
          clear h9 q9 hO9' hO9 hS9 o2 g2 HC3 HST HXS9 hC hAx
          obtain ⟨A3, cap3, rfl, hS3⟩ := n2.shape HTT.out
          have hS4 := hS3.take M.length
          rw [← HMT2.out] at hS4
          have hcap3 : (M.length : Int) ≤ (cap3 : Int) := by have := hS3.1; have := HMT.out; omega
          have H := same_texts M M A2 A3 cap2 cap3 (by omega) (by omega) w11 hS11 hS4 true (by simp)
          clear hS3 hS4 hS11 n2
          generalize (T ++ xt).length = tl at *
          go_wp2_with fail
          refine H.mono ?_
          clear H
          rintro e w12 ⟨rfl, o12⟩
          have HI3 := Lib.hid (show Lw w w12 d (Ps 1000000 logN (puts M)) ∧ w.heap.size ≤ lb2 ∧ Lg w12 lb2 d logN M.length false ∧ OwnS w12 w.heap.size (.slice A2 M.length cap2) M ∧ M.length ≤ 10 * (j + 1) ∧ ∀ t ∈ M, t.length ≤ 200 from by
            obtain ⟨z1, z2, z3, z4, z5, z6⟩ := HI2.out
            exact ⟨z1.go o12, z2, z3.old o12, z4.old o12, z5, z6⟩)
          clear o12 HI2
          go_wp2
          go_roundw
          case rel => exact ⟨j + 1, lb2, M, by omega, by go_num, rfl, ⟨_, _, rfl⟩, HI3⟩
          case measure => simp [intOf]; omega
    · have H := open_ok (x := logN) h1 ht (by decide) (Nat.le_refl _) (open_one (n := (puts T).length) nmL HSL.out)
      clear h1 q1
      go_wp2_with fail
      refine H.mono ?_
      clear H
      rintro e w4 ⟨lb2, A2, cap2, rfl, h4, kr, -, -, -, -, hS2, -⟩
      have hST4 := (hO.kr kr).strs HSM.out
      have H := same_texts T T A2 tA cap2 tc (by omega) (by omega) w4 hS2 hST4 true (by simp)
      clear hS2 hST4 kr hO
      go_wp2_with fail
      refine H.mono ?_
      rintro e w5 ⟨rfl, o5⟩
      go_wp2
      go_ret
      exact ⟨rfl, h4.old.tr o5⟩

set_option maxRecDepth 100000 in
theorem walKeeps_contract (H : Type) (enc : TypeId × Value → H) (W : World) (base : Nat) (args : Array Value) (ds gs : List (DataW H)) (before : List MemPlace)
    (hval0 : ∀ (j : Nat) t v, Tryd.f4.params[j]? = some t → args[j]? = some v → Value.okWide Tryd.prog W .any base t v)
    (hW : DataW.Whole enc Tryd.prog Tryd.f4.params.toList Rows.walKeepsSpec.vars false W args.toList ds gs before) (hL : laidMetH Tryd.prog Rows.walKeepsRow.laid W) :
    Calls Tryd.prog 4 args W fun e W' => ∃ v, e = .returned v ∧ Rows.walKeepsSpec.post enc Tryd.prog Tryd.f4 false true false false W args v W' := by
  have ht : Tab W := table hL
  have hval : ∀ (j : Nat) t v, Tryd.f4.params[j]? = some t → args[j]? = some v → Value.okWide Tryd.prog W .any base t v := hval0
  have hW' := hW
  obtain ⟨p, q, hA0, hV, rfl, hfz, hnd⟩ := hW
  have hA : DataW.TrodAll enc Tryd.prog W 0 (fun _ => true) true Tryd.f4.params.toList args.toList ds p := hA0
  rw [Tryd.params4] at hA hval
  obtain ⟨v0, d0, rfl, rfl, h0⟩ := trodAll_one hA
  obtain ⟨rfl, rfl⟩ := trodVars_none hV
  have hlt : ∀ x ∈ p, x.block < W.heap.size := fun x hx => hW'.lt x (by simpa using hx)
  have k0 := h0
  obtain ⟨a0, A0, c0, rfl, o0, m0⟩ := open_acts (hval 0 23 v0 rfl rfl) h0 (fun x hx => hlt x (by simp [hx]))
  clear hA0 hval0
  refine (law_keeps a0 A0 c0 m0 W ht o0).mono fun e W' ⟨he, hb⟩ => ?_
  subst he
  refine ⟨_, rfl, _, _, _, [], p, [], hW', trodAll_mk1 (shut_bool Tryd.underlying4 _), ?_, rfl, hb.frame _, fun h => by cases h⟩
  have r0 := Below.trod Tryd.laidOut (by kernel_rfl) (of_decide_eq_true (by kernel_rfl)) k0 hb (fun x hx => hlt x (by simp [hx]))
  exact trodAll_mk1 r0

set_option maxRecDepth 100000 in
theorem walKeeps_met (os : Os) : laidMet Tryd.prog Rows.walKeepsRow.laid ((laidWorld os).forCall (fun _ _ => 0) ⟨#[], #[.slice none 0 0], []⟩).memory :=
  laidMet_of_run' 8 (by kernel_rfl) (by kernel_rfl)
set_option maxRecDepth 100000 in
theorem walKeeps_reads (os : Os) {H : Type} (enc : TypeId × Value → H) : ∃ places, DataW.whole enc Tryd.prog ((laidWorld os).forCall (fun _ _ => 0) ⟨#[], #[.slice none 0 0], []⟩).memory Tryd.f4.params.toList Rows.walKeepsSpec.vars false (#[.slice none 0 0] : Array Value).toList 8 = some ([.nil], [], places) :=
  ⟨[], by kernel_rfl⟩

set_option maxRecDepth 100000 in
theorem walKeeps_lifted (os : Os) (started : os.Started) (H : Type) (enc : TypeId × Value → H) (F : Stop.Interp) :
    ReturnsInHanded {} Tryd.checked os 4 .any ((OpenSpec.ofChange Rows.walKeepsSpec).preRow enc Tryd.prog Tryd.f4 Rows.walKeepsRow.domain false Rows.walKeepsRow.laid) (((OpenSpec.ofChange Rows.walKeepsSpec).at F).post enc Tryd.prog Tryd.f4 false true false false) := by
  obtain ⟨places, hx⟩ := walKeeps_reads os enc
  refine returnsInHanded_of_row (C := Tryd.checked) (s := OpenSpec.ofChange Rows.walKeepsSpec) Tryd.own started (by kernel_rfl) Tryd.func4
    (witness_row_at (enc := enc) (C := Tryd.checked) false (laidWorld os) #[.slice none 0 0] rfl (by kernel_rfl) (by kernel_rfl) (by kernel_rfl)
      (OpenSpec.preRow_of_cond 8 hx (by kernel_rfl) (fun k hk => by cases hk) (by kernel_rfl) (walKeeps_met os))) ?_
  intro W base args ds gs before hval hW _ _ _ hL _ _
  exact walKeeps_contract H enc W base args ds gs before hval hW hL

set_option maxRecDepth 100000 in
theorem walKeeps_said : Rows.WalKeepsSaid :=
  OpenClaim.holds_of_cond 4 Tryd.f4 rfl rfl rfl rfl rfl rfl rfl ⟨rfl, rfl, rfl, rfl, rfl⟩ rfl rfl rfl rfl rfl (by kernel_rfl) Tryd.func4 (by kernel_rfl)
    (of_decide_eq_true (by kernel_rfl)) (by unfold Func.isWrapper; first | (rw [if_pos (by decide +kernel)]; kernel_rfl) | (rw [if_neg (by decide +kernel)]; exact ⟨rfl, rfl⟩))
    (fun os started H enc _ F => by rw [OpenClaim.pre_eq_preRow]; exact walKeeps_lifted os started H enc F)

set_option maxRecDepth 100000 in
theorem walKeeps_plain (f : FuncId) (fn : Func) (hf : Tryd.pinned.checked.prog.funcNamed Rows.walKeepsRow.func = some f) (hfn : Tryd.pinned.checked.prog.funcs[f]? = some fn) :
    false = Tryd.pinned.checked.prog.looks [] ∧ ∀ (j : Nat) t, fn.params[j]? = some t → Tryd.pinned.checked.prog.wantsStandIn t = false := by
  obtain rfl : f = 4 := Option.some.inj ((show Tryd.prog.funcNamed Rows.walKeepsRow.func = some 4 by kernel_rfl).symm.trans hf) |>.symm
  obtain rfl : fn = Tryd.f4 := (Option.some.inj (Tryd.func4.symm.trans hfn)).symm
  refine ⟨by kernel_rfl, fun j t ht => ?_⟩
  rw [Tryd.params4] at ht
  have hm := Array.mem_of_getElem? ht
  simp only [List.mem_toArray, List.mem_cons, List.not_mem_nil, or_false] at hm
  subst hm
  exact (show Tryd.prog.wantsStandIn 23 = false by kernel_rfl)

set_option maxRecDepth 100000 in
theorem walKeeps_card : Rows.WalKeepsCardSaid :=
  Claim7.holds_tied_plain_at .later [] _ _ _ _ walKeeps_said (fun _ h => by cases h) (by kernel_rfl) (fun _ h => by cases h) walKeeps_row_tie rfl ⟨rfl, rfl⟩ (by kernel_rfl) rfl walKeeps_plain (by kernel_rfl)
#print axioms walKeeps_card
end Go.Proofs.YtilimfbjkgeciaaDoor
