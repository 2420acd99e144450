/-
  WalMany: whatever acts come in, the law answers true, and leaves all as it was. Condition: the table is laid as the program's text lays it.
-/
import Derived.Test.YtilimfbjkgeciaaDoorWMad
namespace Go.Proofs.YtilimfbjkgeciaaDoor
open Go.ChangeShapes Go.WideShapes Go.ChangeAt Go.RowKit Go.Joins Go.Deep Go.Maps Go.Shelf
set_option maxRecDepth 100000

set_option maxHeartbeats 16000000 in
theorem law_many (l : List Ac) (A : Option Addr) (cap : Nat) (hcap : cap ≤ maxLen) (w : World) (ht : Tab w) (hS : Acts w A cap l) :
    Calls Tryd.prog 6 #[.slice A l.length cap] w fun e w' => e = .returned (.bool true) ∧ Old w w' := by
  have hlc := hS.1
  have hc2 : cap ≤ 2 ^ 63 - 1 := hcap
  by_cases hn : l.length ≤ 40
  case neg =>
    have d1 : decide ((40 : Int) < (l.length : Int)) = true := by simp; omega
    go_enter Tryd.func6, Tryd.ntmps6
    go_wp2_with (go_at_call 8; refine (shown_any _ ht).mono ?_; rintro e w1 ⟨rfl, k1⟩)
    go_ret
    exact ⟨rfl, k1⟩
  have d1 : decide ((40 : Int) < (l.length : Int)) = false := by simp; omega
  go_enter Tryd.func6, Tryd.ntmps6
  go_wp2_with fail
  refine (shown_any _ ht).mono ?_
  rintro e w1 ⟨rfl, k1⟩
  clear d1
  go_wp2_with fail
  refine (new_lw 1000000 (by omega) k1).mono ?_
  rintro e w2 ⟨d, rfl, h1, -⟩
  have H := open_ok (x := logN) h1 ht (by decide) (by decide) (open_none nmL)
  clear h1 k1
  go_wp2_with fail
  refine H.mono ?_
  clear H
  rintro e w3 ⟨lb, A0, cap0, rfl, h2, -, -, q1, -, q3, -, -⟩
  go_wp2_with fail
  have HQ := Lib.hid q1
  clear q1
  have o3 := old_alloc w3 (.cells #[] 9)
  have HI0 := Lib.hid (show Lw w (w3.alloc (.cells #[] 9)) d (Ps 1000000 logN (puts [])) ∧ Lg (w3.alloc (.cells #[] 9)) lb d logN ([] : List (List UInt8)).length false ∧ OwnS (w3.alloc (.cells #[] 9)) w.heap.size (.slice (some ⟨w3.heap.size, 0, none⟩) 0 0) [] ∧ ([] : List (List UInt8)).length ≤ 10 * 0 ∧ ∀ t ∈ ([] : List (List UInt8)), t.length ≤ 200 from
    ⟨h2.go o3, q3.old o3, owns_new w3 _ h2.old.size, Nat.zero_le _, fun t h => by cases h⟩)
  clear h2 q3 o3
  go_loopw [6, 7, 8] (fun e al i wr => ∃ (j : Nat) (T : List (List UInt8)), j ≤ l.length ∧ i = .int .i64 j ∧ e = .int .i64 0 ∧ (∃ tA tc, al = .slice tA T.length tc) ∧ Hid (Lw w wr d (Ps 1000000 logN (puts T)) ∧ Lg wr lb d logN T.length false ∧ OwnS wr w.heap.size al T ∧ T.length ≤ 10 * j ∧ ∀ t ∈ T, t.length ≤ 200)) (fun _ _ i _ => l.length - (intOf i).toNat)
  case atStart => exact ⟨0, [], Nat.zero_le _, rfl, rfl, ⟨_, _, rfl⟩, HI0⟩
  case round =>
    clear HI0
    obtain ⟨j, T, hj, rfl, rfl, ⟨tA, tc, rfl⟩, HI⟩ := hrel
    obtain ⟨h1, q1, hO, hT, hs⟩ := HI.out
    have HSM := Lib.hid (show ∀ t ∈ T, t.length ≤ 1000000 from fun t h => by have := hs t h; omega)
    have HSL := Lib.hid (show ∀ t ∈ T, t.length ≤ 65535 from fun t h => by have := hs t h; omega)
    have hpt := short_puts T hs
    by_cases hlt : j < l.length
    · obtain ⟨hok, bb, off, rfl, hac⟩ := hS.at_ j hlt
      have HAC := Lib.hid (fun (W : World) (o : Old w W) => hac.old o)
      clear hac
      generalize l[j] = x at *
      obtain ⟨kind, xn, xk, xt, xA, xc⟩ := x
      obtain ⟨-, hxS, hxc⟩ := hok
      simp only at hxS hxc
      obtain ⟨c0, c1, c2, c3⟩ := HAC.out wr h1.old
      simp only at c0 c1 c2 c3
      have HB := bounded_any ⟨kind, xn, xk, xt, xA, xc⟩ hxc wr (hxS.old h1.old)
      simp only at HB
      cases hb : bnd xt with
      | false =>
        rw [hb] at HB
        have HSH := Lib.hid (fun (W : World) (o : Old wr W) => shown_any W (ht.old (h1.old.tr o)))
        go_wp2_with fail
        refine HB.mono ?_
        rintro e w4 ⟨rfl, o4⟩
        go_wp2_with fail
        refine (HSH.out _ o4).mono ?_
        rintro e w5 ⟨rfl, o5⟩
        go_wp2
        go_ret
        exact ⟨rfl, (h1.old.tr o4).tr o5⟩
      | true =>
        rw [hb] at HB
        obtain ⟨hxl, hxs⟩ := bnd_yes hb
        have HXL := Lib.hid (show ∀ t ∈ xt, t.length ≤ 65535 from fun t h => by have := hxs t h; omega)
        have HXM := Lib.hid (show ∀ t ∈ xt, t.length ≤ 1000000 from fun t h => by have := hxs t h; omega)
        have hpx := short_puts xt hxs
        have HTS := Lib.hid (show ∀ t ∈ T ++ xt, t.length ≤ 200 from fun t h => by rcases List.mem_append.1 h with h | h; exact hs t h; exact hxs t h)
        have HXS := Lib.hid hxs
        clear hb hs hxs HI
        go_wp2_with fail
        refine HB.mono ?_
        rintro e w4 ⟨rfl, o4⟩
        clear HB
        have h4 := h1.go o4
        have q4 := q1.old o4
        have hO4 := hO.old o4
        clear h1 q1 hO c0 c1 c2 c3
        obtain ⟨c0, c1, c2, c3⟩ := HAC.out w4 h4.old
        simp only at c0 c1 c2 c3
        by_cases hk0 : kind = 0
        · subst hk0
          have H := append_ok' h4 ht HQ.out q4 (by decide) (by omega) (by omega) HXM.out (hxS.old h4.old) (append_one nmL HXL.out _ (by omega))
          go_wp2_with fail
          refine H.mono ?_
          clear H
          rintro e w5 ⟨rfl, h5, q5, kr, -⟩
          have hO5 := hO4.kr kr
          clear h4 q4 hO4 c0 c1 c2 c3 kr
          obtain ⟨c0, c1, c2, c3⟩ := HAC.out w5 h5.old
          simp only at c0 c1 c2 c3
          have hxS5 := hxS.old h5.old
          go_wp2_with (at_builtin; refine wp_strs rfl (.tmp 64) (.tmp 69) rfl h5.old _ T xt rfl hO5 xA xc rfl hxS5 (by omega) ?_; intro v8 w8 n8 o8 g8; refine Hid.out ?_)
          have h8 := h5.grown hO5 g8 o8
          have q8 : Lg w8 lb d logN _ _ := bk_grown hO5 g8 q5 (by decide)
          clear h5 q5 hO5 o8 g8 c0 c1 c2 c3 hxS5
          obtain ⟨tA2, tc2, rfl, -⟩ := n8.shape (fun t h => by have := HTS.out t h; omega)
          rw [← List.length_append] at q8
          have hlen := (List.length_append : (T ++ xt).length = T.length + xt.length)
          have HI2 := Lib.hid (show Lw w w8 d (Ps 1000000 logN (puts (T ++ xt))) ∧ Lg w8 lb d logN (T ++ xt).length false ∧ OwnS w8 w.heap.size (.slice tA2 (T ++ xt).length tc2) (T ++ xt) ∧ (T ++ xt).length ≤ 10 * (j + 1) ∧ ∀ t ∈ T ++ xt, t.length ≤ 200 from ⟨h8, q8, n8, by omega, HTS.out⟩)
          clear h8 n8 hlen
          generalize T ++ xt = T2 at *
          have HM := many_any q8
          refine Lib.hid ?_
          go_wp2_with fail
          refine HM.mono ?_
          rintro e w9 ⟨rfl, rfl⟩
          go_wp2_with fail
          refine (off_any q8).mono ?_
          rintro e w9 ⟨rfl, rfl⟩
          go_wp2
          go_roundw
          case rel => exact ⟨j + 1, T2, by omega, by go_num, rfl, ⟨_, _, rfl⟩, HI2⟩
          case measure => simp [intOf]; omega
        have hkI0 : (kind == 0) = false := by simpa using hk0
        by_cases hk1 : kind = 1
        · subst hk1
          have H := append_ok' h4 ht HQ.out q4 (by decide) (by omega) (by omega) HXM.out (hxS.old h4.old) (append_one nmL HXL.out _ (by omega))
          go_wp2_with fail
          refine H.mono ?_
          clear H
          rintro e w5 ⟨rfl, h5, q5, kr, -⟩
          have hO5 := hO4.kr kr
          clear h4 q4 hO4 c0 c1 c2 c3 kr
          obtain ⟨c0, c1, c2, c3⟩ := HAC.out w5 h5.old
          simp only at c0 c1 c2 c3
          have hxS5 := hxS.old h5.old
          go_wp2_with (at_builtin; refine wp_strs rfl (.tmp 64) (.tmp 69) rfl h5.old _ T xt rfl hO5 xA xc rfl hxS5 (by omega) ?_; intro v8 w8 n8 o8 g8; refine Hid.out ?_)
          have h8 := h5.grown hO5 g8 o8
          have q8 : Lg w8 lb d logN _ _ := bk_grown hO5 g8 q5 (by decide)
          clear h5 q5 hO5 o8 g8 c0 c1 c2 c3 hxS5
          obtain ⟨tA2, tc2, rfl, -⟩ := n8.shape (fun t h => by have := HTS.out t h; omega)
          rw [← List.length_append] at q8
          have hlen := (List.length_append : (T ++ xt).length = T.length + xt.length)
          have HI2 := Lib.hid (show Lw w w8 d (Ps 1000000 logN (puts (T ++ xt))) ∧ Lg w8 lb d logN (T ++ xt).length false ∧ OwnS w8 w.heap.size (.slice tA2 (T ++ xt).length tc2) (T ++ xt) ∧ (T ++ xt).length ≤ 10 * (j + 1) ∧ ∀ t ∈ T ++ xt, t.length ≤ 200 from ⟨h8, q8, n8, by omega, HTS.out⟩)
          clear h8 n8 hlen
          generalize T ++ xt = T2 at *
          have HM := many_any q8
          refine Lib.hid ?_
          go_wp2_with fail
          refine HM.mono ?_
          rintro e w9 ⟨rfl, rfl⟩
          go_wp2_with fail
          refine (off_any q8).mono ?_
          rintro e w9 ⟨rfl, rfl⟩
          go_wp2
          go_roundw
          case rel => exact ⟨j + 1, T2, by omega, by go_num, rfl, ⟨_, _, rfl⟩, HI2⟩
          case measure => simp [intOf]; omega
        have hkI1 : (kind == 1) = false := by simpa using hk1
        by_cases hk2 : kind = 2
        · subst hk2
          have H := append_ok' h4 ht HQ.out q4 (by decide) (by omega) (by omega) HXM.out (hxS.old h4.old) (append_one nmL HXL.out _ (by omega))
          go_wp2_with fail
          refine H.mono ?_
          clear H
          rintro e w5 ⟨rfl, h5, q5, kr, -⟩
          have hO5 := hO4.kr kr
          clear h4 q4 hO4 c0 c1 c2 c3 kr
          obtain ⟨c0, c1, c2, c3⟩ := HAC.out w5 h5.old
          simp only at c0 c1 c2 c3
          have hxS5 := hxS.old h5.old
          go_wp2_with (at_builtin; refine wp_strs rfl (.tmp 64) (.tmp 69) rfl h5.old _ T xt rfl hO5 xA xc rfl hxS5 (by omega) ?_; intro v8 w8 n8 o8 g8; refine Hid.out ?_)
          have h8 := h5.grown hO5 g8 o8
          have q8 : Lg w8 lb d logN _ _ := bk_grown hO5 g8 q5 (by decide)
          clear h5 q5 hO5 o8 g8 c0 c1 c2 c3 hxS5
          obtain ⟨tA2, tc2, rfl, -⟩ := n8.shape (fun t h => by have := HTS.out t h; omega)
          rw [← List.length_append] at q8
          have hlen := (List.length_append : (T ++ xt).length = T.length + xt.length)
          have HI2 := Lib.hid (show Lw w w8 d (Ps 1000000 logN (puts (T ++ xt))) ∧ Lg w8 lb d logN (T ++ xt).length false ∧ OwnS w8 w.heap.size (.slice tA2 (T ++ xt).length tc2) (T ++ xt) ∧ (T ++ xt).length ≤ 10 * (j + 1) ∧ ∀ t ∈ T ++ xt, t.length ≤ 200 from ⟨h8, q8, n8, by omega, HTS.out⟩)
          clear h8 n8 hlen
          generalize T ++ xt = T2 at *
          have HM := many_any q8
          refine Lib.hid ?_
          go_wp2_with fail
          refine HM.mono ?_
          rintro e w9 ⟨rfl, rfl⟩
          go_wp2_with fail
          refine (off_any q8).mono ?_
          rintro e w9 ⟨rfl, rfl⟩
          go_wp2
          go_roundw
          case rel => exact ⟨j + 1, T2, by omega, by go_num, rfl, ⟨_, _, rfl⟩, HI2⟩
          case measure => simp [intOf]; omega
        have hkI2 : (kind == 2) = false := by simpa using hk2
        by_cases hk3 : kind = 3
        · subst hk3
          have H := append_ok' h4 ht HQ.out q4 (by decide) (by omega) (by omega) HXM.out (hxS.old h4.old) (append_one nmL HXL.out _ (by omega))
          go_wp2_with fail
          refine H.mono ?_
          clear H
          rintro e w5 ⟨rfl, h5, q5, kr, -⟩
          have hO5 := hO4.kr kr
          clear h4 q4 hO4 c0 c1 c2 c3 kr
          obtain ⟨c0, c1, c2, c3⟩ := HAC.out w5 h5.old
          simp only at c0 c1 c2 c3
          have hxS5 := hxS.old h5.old
          go_wp2_with (at_builtin; refine wp_strs rfl (.tmp 64) (.tmp 69) rfl h5.old _ T xt rfl hO5 xA xc rfl hxS5 (by omega) ?_; intro v8 w8 n8 o8 g8; refine Hid.out ?_)
          have h8 := h5.grown hO5 g8 o8
          have q8 : Lg w8 lb d logN _ _ := bk_grown hO5 g8 q5 (by decide)
          clear h5 q5 hO5 o8 g8 c0 c1 c2 c3 hxS5
          obtain ⟨tA2, tc2, rfl, -⟩ := n8.shape (fun t h => by have := HTS.out t h; omega)
          rw [← List.length_append] at q8
          have hlen := (List.length_append : (T ++ xt).length = T.length + xt.length)
          have HI2 := Lib.hid (show Lw w w8 d (Ps 1000000 logN (puts (T ++ xt))) ∧ Lg w8 lb d logN (T ++ xt).length false ∧ OwnS w8 w.heap.size (.slice tA2 (T ++ xt).length tc2) (T ++ xt) ∧ (T ++ xt).length ≤ 10 * (j + 1) ∧ ∀ t ∈ T ++ xt, t.length ≤ 200 from ⟨h8, q8, n8, by omega, HTS.out⟩)
          clear h8 n8 hlen
          generalize T ++ xt = T2 at *
          have HM := many_any q8
          refine Lib.hid ?_
          go_wp2_with fail
          refine HM.mono ?_
          rintro e w9 ⟨rfl, rfl⟩
          go_wp2_with fail
          refine (off_any q8).mono ?_
          rintro e w9 ⟨rfl, rfl⟩
          go_wp2
          go_roundw
          case rel => exact ⟨j + 1, T2, by omega, by go_num, rfl, ⟨_, _, rfl⟩, HI2⟩
          case measure => simp [intOf]; omega
        have hkI3 : (kind == 3) = false := by simpa using hk3
        by_cases hk4 : kind = 4
        · subst hk4
          have H := reset_ok' h4 ht HQ.out q4 (by decide) (by omega) HXM.out (hxS.old h4.old) (reset_one nmL HXL.out _ (by omega))
          go_wp2_with fail
          refine H.mono ?_
          clear H
          rintro e w5 ⟨rfl, h5, q5, kr, -⟩
          clear h4 q4 hO4 c0 c1 c2 c3 kr
          have o6 := old_alloc w5 (.cells #[] 9)
          have hO5 := owns_new w5 w.heap.size h5.old.size
          have h6 := h5.go o6
          have q6 := q5.old o6
          obtain ⟨c0, c1, c2, c3⟩ := HAC.out _ h6.old
          simp only at c0 c1 c2 c3
          have hxS5 := hxS.old h6.old
          go_wp2_with (at_builtin; refine wp_strs rfl (.tmp 80) (.tmp 85) rfl h6.old _ [] xt rfl hO5 xA xc rfl hxS5 (by simp; omega) ?_; intro v8 w8 n8 o8 g8; refine Hid.out ?_)
          have h8 := h6.grown hO5 g8 o8
          have q8 : Lg w8 lb d logN _ _ := bk_grown hO5 g8 q6 (by decide)
          rw [List.nil_append] at n8
          clear h5 h6 q5 q6 hO5 o8 g8 c0 c1 c2 c3 hxS5 o6
          obtain ⟨tA2, tc2, rfl, -⟩ := n8.shape (fun t h => by have := HXS.out t h; omega)
          have HI2 := Lib.hid (show Lw w w8 d (Ps 1000000 logN (puts xt)) ∧ Lg w8 lb d logN xt.length false ∧ OwnS w8 w.heap.size (.slice tA2 xt.length tc2) xt ∧ xt.length ≤ 10 * (j + 1) ∧ ∀ t ∈ xt, t.length ≤ 200 from ⟨h8, q8, n8, by omega, HXS.out⟩)
          clear h8 n8
          have HM := many_any q8
          refine Lib.hid ?_
          go_wp2_with fail
          refine HM.mono ?_
          rintro e w9 ⟨rfl, rfl⟩
          go_wp2_with fail
          refine (off_any q8).mono ?_
          rintro e w9 ⟨rfl, rfl⟩
          go_wp2
          go_roundw
          case rel => exact ⟨j + 1, xt, by omega, by go_num, rfl, ⟨_, _, rfl⟩, HI2⟩
          case measure => simp [intOf]; omega
        have hkI4 : (kind == 4) = false := by simpa using hk4
        by_cases hk5 : kind = 5
        · subst hk5
          obtain ⟨w5, v5, hmk, hcv, o5⟩ := made 65536 (by omega) w4
          have hzl : (List.replicate 65536 (0 : UInt8)).length = 65536 := List.length_replicate
          generalize hzE0 : List.replicate 65536 (0 : UInt8) = z at *
          have hzE := Lib.hid hzE0
          clear hzE0
          have hzw : [z].any wideT = true := by unfold wideT; simp [hzl]
          have o6 := o5.al (.cells #[.string (B z)] 9)
          have HZ := Lib.hid (show ∀ t ∈ [z], t.length ≤ 1000000 from fun t h => by rw [List.mem_singleton.1 h, hzl]; omega)
          have H := append_ok' (h4.go o6) ht HQ.out (q4.old o6) (by decide) (by omega) (by simp) HZ.out (strs_any [z] HZ.out (new_bk w5 _ _)) (wide_app logN _ T.length hzw)
          have hO6 := hO4.old o6
          have hmk1 : (Instr.makeSlice 54 (.int .i64 65536) (.int .i64 65536)).run Tryd.prog w4 = .ok v5 w5 := hmk
          clear h4 q4 hO4 o5 o6 hmk
          go_wp2_with fail
          refine H.mono ?_
          clear H
          rintro e w7 ⟨rfl, h7, q7, kr, -⟩
          have hO7 := hO6.kr kr
          clear hO6 kr hmk1 hcv c0 c1 c2 c3
          obtain ⟨w8, v8, hmk, hcv, o8⟩ := made 65536 (by omega) w7
          have hmk1 : (Instr.makeSlice 54 (.int .i64 65536) (.int .i64 65536)).run Tryd.prog w7 = .ok v8 w8 := hmk
          rw [hzE.out] at hcv
          have o9 := o8.al (.cells #[.string (B z)] 9)
          have H := reset_ok' (h7.go o9) ht HQ.out (q7.old o9) (by decide) (by simp) HZ.out (strs_any [z] HZ.out (new_bk w8 _ _)) (wide_res logN _ T.length hzw)
          have hO9 := hO7.old o9
          clear h7 q7 hO7 o8 o9 hmk
          go_wp2_with fail
          refine H.mono ?_
          clear H
          rintro e w10 ⟨rfl, h10, q10, kr, -⟩
          have hO10 := hO9.kr kr
          clear hO9 kr hmk1 hcv
          have HI2 := Lib.hid (show Lw w w10 d (Ps 1000000 logN (puts T)) ∧ Lg w10 lb d logN T.length false ∧ OwnS w10 w.heap.size (.slice tA T.length tc) T ∧ T.length ≤ 10 * (j + 1) ∧ ∀ t ∈ T, t.length ≤ 200 from ⟨h10, q10, hO10, by omega, fun t h => HTS.out t (List.mem_append_left _ h)⟩)
          clear h10 hO10
          go_wp2_with fail
          refine (many_any q10).mono ?_
          rintro e w11 ⟨rfl, rfl⟩
          go_wp2_with fail
          refine (off_any q10).mono ?_
          rintro e w11 ⟨rfl, rfl⟩
          go_wp2
          go_roundw
          case rel => exact ⟨j + 1, T, by omega, by go_num, rfl, ⟨_, _, rfl⟩, HI2⟩
          case measure => simp [intOf]; omega
        have hkI5 : (kind == 5) = false := by simpa using hk5
        have HI2 := Lib.hid (show Lw w w4 d (Ps 1000000 logN (puts T)) ∧ Lg w4 lb d logN T.length false ∧ OwnS w4 w.heap.size (.slice tA T.length tc) T ∧ T.length ≤ 10 * (j + 1) ∧ ∀ t ∈ T, t.length ≤ 200 from ⟨h4, q4, hO4, by omega, fun t h => HTS.out t (List.mem_append_left _ h)⟩)
        go_wp2_with fail
        refine (many_any q4).mono ?_
        rintro e w11 ⟨rfl, rfl⟩
        go_wp2_with fail
        refine (off_any q4).mono ?_
        rintro e w11 ⟨rfl, rfl⟩
        clear h4 q4 hO4
        go_wp2
        go_roundw
        case rel => exact ⟨j + 1, T, by omega, by go_num, rfl, ⟨_, _, rfl⟩, HI2⟩
        case measure => simp [intOf]; omega
    · have H := open_ok (x := logN) h1 ht (by decide) (Nat.le_refl _) (open_one (n := (puts T).length) nmL HSL.out)
      have hST := hO.strs HSM.out
      clear h1 q1
      go_wp2_with fail
      refine H.mono ?_
      clear H
      rintro e w4 ⟨lb2, A2, cap2, rfl, h4, kr, -, -, -, -, hS2, -⟩
      have hST4 := (hO.kr kr).strs HSM.out
      have H := same_texts T T A2 tA cap2 tc (by omega) (by omega) w4 hS2 hST4 true (by simp)
      clear hST hS2 hST4 kr hO
      go_wp2_with fail
      refine H.mono ?_
      rintro e w5 ⟨rfl, o5⟩
      go_wp2
      go_ret
      exact ⟨rfl, h4.old.tr o5⟩

set_option maxRecDepth 100000 in
theorem walMany_contract (H : Type) (enc : TypeId × Value → H) (W : World) (base : Nat) (args : Array Value) (ds gs : List (DataW H)) (before : List MemPlace)
    (hval0 : ∀ (j : Nat) t v, Tryd.f6.params[j]? = some t → args[j]? = some v → Value.okWide Tryd.prog W .any base t v)
    (hW : DataW.Whole enc Tryd.prog Tryd.f6.params.toList Rows.walManySpec.vars false W args.toList ds gs before) (hL : laidMetH Tryd.prog Rows.walManyRow.laid W) :
    Calls Tryd.prog 6 args W fun e W' => ∃ v, e = .returned v ∧ Rows.walManySpec.post enc Tryd.prog Tryd.f6 false true false false W args v W' := by
  have ht : Tab W := table hL
  have hval : ∀ (j : Nat) t v, Tryd.f6.params[j]? = some t → args[j]? = some v → Value.okWide Tryd.prog W .any base t v := hval0
  have hW' := hW
  obtain ⟨p, q, hA0, hV, rfl, hfz, hnd⟩ := hW
  have hA : DataW.TrodAll enc Tryd.prog W 0 (fun _ => true) true Tryd.f6.params.toList args.toList ds p := hA0
  rw [Tryd.params6] at hA hval
  obtain ⟨v0, d0, rfl, rfl, h0⟩ := trodAll_one hA
  obtain ⟨rfl, rfl⟩ := trodVars_none hV
  have hlt : ∀ x ∈ p, x.block < W.heap.size := fun x hx => hW'.lt x (by simpa using hx)
  have k0 := h0
  obtain ⟨a0, A0, c0, rfl, o0, m0⟩ := open_acts (hval 0 23 v0 rfl rfl) h0 (fun x hx => hlt x (by simp [hx]))
  clear hA0 hval0
  refine (law_many a0 A0 c0 m0 W ht o0).mono fun e W' ⟨he, hb⟩ => ?_
  subst he
  refine ⟨_, rfl, _, _, _, [], p, [], hW', trodAll_mk1 (shut_bool Tryd.underlying4 _), ?_, rfl, hb.frame _, fun h => by cases h⟩
  have r0 := Below.trod Tryd.laidOut (by kernel_rfl) (of_decide_eq_true (by kernel_rfl)) k0 hb (fun x hx => hlt x (by simp [hx]))
  exact trodAll_mk1 r0

set_option maxRecDepth 100000 in
theorem walMany_met (os : Os) : laidMet Tryd.prog Rows.walManyRow.laid ((laidWorld os).forCall (fun _ _ => 0) ⟨#[], #[.slice none 0 0], []⟩).memory :=
  laidMet_of_run' 8 (by kernel_rfl) (by kernel_rfl)
set_option maxRecDepth 100000 in
theorem walMany_reads (os : Os) {H : Type} (enc : TypeId × Value → H) : ∃ places, DataW.whole enc Tryd.prog ((laidWorld os).forCall (fun _ _ => 0) ⟨#[], #[.slice none 0 0], []⟩).memory Tryd.f6.params.toList Rows.walManySpec.vars false (#[.slice none 0 0] : Array Value).toList 8 = some ([.nil], [], places) :=
  ⟨[], by kernel_rfl⟩

set_option maxRecDepth 100000 in
theorem walMany_lifted (os : Os) (started : os.Started) (H : Type) (enc : TypeId × Value → H) (F : Stop.Interp) :
    ReturnsInHanded {} Tryd.checked os 6 .any ((OpenSpec.ofChange Rows.walManySpec).preRow enc Tryd.prog Tryd.f6 Rows.walManyRow.domain false Rows.walManyRow.laid) (((OpenSpec.ofChange Rows.walManySpec).at F).post enc Tryd.prog Tryd.f6 false true false false) := by
  obtain ⟨places, hx⟩ := walMany_reads os enc
  refine returnsInHanded_of_row (C := Tryd.checked) (s := OpenSpec.ofChange Rows.walManySpec) Tryd.own started (by kernel_rfl) Tryd.func6
    (witness_row_at (enc := enc) (C := Tryd.checked) false (laidWorld os) #[.slice none 0 0] rfl (by kernel_rfl) (by kernel_rfl) (by kernel_rfl)
      (OpenSpec.preRow_of_cond 8 hx (by kernel_rfl) (fun k hk => by cases hk) (by kernel_rfl) (walMany_met os))) ?_
  intro W base args ds gs before hval hW _ _ _ hL _ _
  exact walMany_contract H enc W base args ds gs before hval hW hL

set_option maxRecDepth 100000 in
theorem walMany_said : Rows.WalManySaid :=
  OpenClaim.holds_of_cond 6 Tryd.f6 rfl rfl rfl rfl rfl rfl rfl ⟨rfl, rfl, rfl, rfl, rfl⟩ rfl rfl rfl rfl rfl (by kernel_rfl) Tryd.func6 (by kernel_rfl)
    (of_decide_eq_true (by kernel_rfl)) (by unfold Func.isWrapper; first | (rw [if_pos (by decide +kernel)]; kernel_rfl) | (rw [if_neg (by decide +kernel)]; exact ⟨rfl, rfl⟩))
    (fun os started H enc _ F => by rw [OpenClaim.pre_eq_preRow]; exact walMany_lifted os started H enc F)

set_option maxRecDepth 100000 in
theorem walMany_plain (f : FuncId) (fn : Func) (hf : Tryd.pinned.checked.prog.funcNamed Rows.walManyRow.func = some f) (hfn : Tryd.pinned.checked.prog.funcs[f]? = some fn) :
    false = Tryd.pinned.checked.prog.looks [] ∧ ∀ (j : Nat) t, fn.params[j]? = some t → Tryd.pinned.checked.prog.wantsStandIn t = false := by
  obtain rfl : f = 6 := Option.some.inj ((show Tryd.prog.funcNamed Rows.walManyRow.func = some 6 by kernel_rfl).symm.trans hf) |>.symm
  obtain rfl : fn = Tryd.f6 := (Option.some.inj (Tryd.func6.symm.trans hfn)).symm
  refine ⟨by kernel_rfl, fun j t ht => ?_⟩
  rw [Tryd.params6] at ht
  have hm := Array.mem_of_getElem? ht
  simp only [List.mem_toArray, List.mem_cons, List.not_mem_nil, or_false] at hm
  subst hm
  exact (show Tryd.prog.wantsStandIn 23 = false by kernel_rfl)

set_option maxRecDepth 100000 in
theorem walMany_card : Rows.WalManyCardSaid :=
  Claim7.holds_tied_plain_at .later [] _ _ _ _ walMany_said (fun _ h => by cases h) (by kernel_rfl) (fun _ h => by cases h) walMany_row_tie rfl ⟨rfl, rfl⟩ (by kernel_rfl) rfl walMany_plain (by kernel_rfl)
#print axioms walMany_card
end Go.Proofs.YtilimfbjkgeciaaDoor
