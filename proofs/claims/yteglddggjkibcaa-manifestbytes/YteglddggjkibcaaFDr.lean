/-
  Decode of the reference. Conditions: lengths as written.
-/
import Derived.Test.YteglddggjkibcaaFRn
import Derived.Test.YteglddggjkibcaaFRr
namespace Go.Proofs.Yteglddggjkibcaa
open Go.RowKit Go.Shelf
set_option linter.unusedSimpArgs false

/-- While an edit is read: r the answer's block, h the edit's. -/
structure LB (T F : TypeId) (w wr : World) (r h base : Nat) (va vd : Value) (l : List Itm) (d : List (List UInt8)) (n1 n2 : Nat) : Prop where
  old : Old w wr
  res : Bk wr r T #[.slice none 0 0, .slice none 0 0, .int .u64 0, .int .u64 0]
  box : Bk wr h T #[va, vd, .int .u64 (n1 : Int), .int .u64 (n2 : Int)]
  own : OwnE F wr base va l
  owns : OwnS wr base vd d
  size : base ≤ wr.heap.size
  lt : w.heap.size ≤ r ∧ r < h ∧ h < base
section
variable {T F : TypeId} {w wr w2 w3 : World} {r h base : Nat} {va vd : Value} {l l' : List Itm} {d d' : List (List UInt8)} {n1 n2 : Nat}
theorem LB.to (a : LB T F w wr r h base va vd l d n1 n2) (o : Old wr w2) : LB T F w w2 r h base va vd l d n1 n2 :=
  ⟨a.old.tr o, a.res.old o, a.box.old o, a.own.old o, own_stays a.owns (fun i _ _ hi => (o.block i (Array.getElem?_eq_some_iff.1 hi).1).trans hi), Nat.le_trans a.size o.size, a.lt⟩
theorem LB.growF (a : LB T F w wr r h base va vd l d n1 n2) (hF : F ≠ 9) {va' : Value} (n : OwnE F w2 base va' l') (gr : wr.grownBy w2 va.ownBlock) : LB T F w (w2.setCell ⟨h, 0, none⟩ va') r h base va' vd l' d n1 n2 := by
  obtain ⟨h1, h2, h3⟩ := a.lt
  have b := a.box.row a.own gr (by omega)
  refine ⟨(a.old.row a.own gr (by omega)).st (by simp; omega) _, (a.res.row a.own gr (by omega)).far (by simp; omega) _, by simpa using b.set_ 0 va', own_stays n (set_stays _ _ _ (by simpa using h3)), own_stays (own_other a.owns a.own (fun e => hF e.symm) gr) (set_stays _ _ _ (by simpa using h3)), ?_, a.lt⟩
  have := a.size
  have := gr.size
  simp [World.setCell]
  omega
theorem LB.growS (a : LB T F w wr r h base va vd l d n1 n2) (hF : F ≠ 9) {vd' : Value} (n : OwnS w2 base vd' d') (gr : wr.grownBy w2 vd.ownBlock) : LB T F w (w2.setCell ⟨h, 1, none⟩ vd') r h base va vd' l d' n1 n2 := by
  obtain ⟨h1, h2, h3⟩ := a.lt
  have b := a.box.row a.owns gr (by omega)
  refine ⟨(a.old.row a.owns gr (by omega)).st (by simp; omega) _, (a.res.row a.owns gr (by omega)).far (by simp; omega) _, by simpa using b.set_ 1 vd', own_stays (own_other a.own a.owns hF gr) (set_stays _ _ _ (by simpa using h3)), own_stays n (set_stays _ _ _ (by simpa using h3)), ?_, a.lt⟩
  have := a.size
  have := gr.size
  simp [World.setCell]
  omega
end
theorem rrE_short {t : List UInt8} (h : t.length < 16) : rrE t = none := if_pos h
theorem rdecF_none {t : List UInt8} (h : rrE t = none) : rdecF t = (50, Ed0) := by unfold rdecF; rw [h]
theorem rdecF_no {t : List UInt8} {e : Ed} (h : rrE t = some e) (h2 : encF e ≠ (0, t)) : rdecF t = (50, Ed0) := by unfold rdecF; rw [h]; exact if_neg h2
theorem rdecF_yes {t : List UInt8} {e : Ed} (h : rrE t = some e) (h2 : encF e = (0, t)) : rdecF t = (0, e) := by unfold rdecF; rw [h]; exact if_pos h2
/-- What is known of a text that is long enough. -/
theorem rr_eq {t : List UInt8} (h : ¬ t.length < 16) : ∃ n1 n2 k3 s3, Hid (n1 = lowV (t.take 8) ∧ n2 = lowV ((t.drop 8).take 8) ∧ firstF (t.drop 16) = (k3, s3) ∧ rrE t = (rrFs k3.toNat s3).bind fun p => (rrTs (firstF p.2).1.toNat (firstF p.2).2).map fun q => ⟨p.1, q.1, n1, n2⟩) :=
  ⟨_, _, _, _, Lib.hid ⟨rfl, rfl, rfl, if_neg h⟩⟩
theorem rr_e1 {t : List UInt8} {n1 n2 : Nat} {k3 : Int} {s3 : List UInt8} (h : rrE t = (rrFs k3.toNat s3).bind fun p => (rrTs (firstF p.2).1.toNat (firstF p.2).2).map fun q => (⟨p.1, q.1, n1, n2⟩ : Ed)) {k : Nat} (hk : (k : Int) < k3) (hn : rrFs (k + 1) s3 = none) : rrE t = none := by
  rw [h, rrFs_none hn _ (by omega)]; rfl
theorem two_val (s : List UInt8) (h : 2 ≤ s.length) : wrap64 (wrap64 ((s[0]'(by omega)).toNat : Int) + wrap64 ((256 : Int) * wrap64 ((s[1]'(by omega)).toNat : Int))) = ((lowV (s.take 2) : Nat) : Int) := by
  obtain ⟨b0, s, rfl⟩ : ∃ b t, s = b :: t := by
    cases s with
    | nil => simp at h
    | cons b t => exact ⟨b, t, rfl⟩
  obtain ⟨b1, s, rfl⟩ : ∃ b t, s = b :: t := by
    cases s with
    | nil => simp at h
    | cons b t => exact ⟨b, t, rfl⟩
  have h0 := b0.toNat_lt
  have h1 := b1.toNat_lt
  simp only [List.getElem_cons_zero, List.getElem_cons_succ, List.take_succ_cons, List.take_zero, lowV_cons]
  simp only [wrap64, lowV, List.foldr_nil]
  omega
set_option maxRecDepth 10000 in
set_option maxHeartbeats 8000000 in
theorem rdecode_any (t : List UInt8) (hl : t.length ≤ 1000000) (w : World) : Calls Try.prog 23 #[.string (B t)] w (PostD w (rdecF t)) := by
  by_cases h16 : t.length < 16
  · have HR := Lib.hid (rdecF_none (rrE_short h16))
    have hi : (t.length : Int) < 16 := by omega
    go_enter Try.func23, Try.ntmps23
    go_wp2
    have Z := new_bk w 41 #[.slice none 0 0, .slice none 0 0, .int .u64 0, .int .u64 0]
    have ZO : Old w (w.alloc (.cells #[.slice none 0 0, .slice none 0 0, .int .u64 0, .int .u64 0] 41)) := (Old.re w).al _
    have y0 := Z.cell 0
    have y1 := Z.cell 1
    have y2 := Z.cell 2
    have y3 := Z.cell 3
    refine bodyPost_ret (v := .tuple #[.agg #[.slice none 0 0, .slice none 0 0, .int .u64 0, .int .u64 0], .int .i64 50]) (by simp [results, Try.results23, go_sem, y0, y1, y2, y3]) rfl ?_
    rw [HR.out]
    exact ⟨_, none, 0, rfl, ZO, Itms.nil _, Strs.none _⟩
  · obtain ⟨n1, n2, k3, s3, HX⟩ := rr_eq h16
    have b1 : n1 < 18446744073709551616 := by rw [HX.out.1]; exact lowV_take8 _
    have b2 : n2 < 18446744073709551616 := by rw [HX.out.2.1]; exact lowV_take8 _
    have z16 : 16 ≤ t.length := by omega
    have hi : (16 : Int) ≤ (t.length : Int) := by omega
    have hi8 : (8 : Int) ≤ (t.length : Int) := by omega
    have C1 : ∀ W, Calls Try.prog 54 #[.string (B t)] W fun e w' => e = .returned (.int .u64 (n1 : Int)) ∧ w' = W := fun W => by
      rw [HX.out.1]; exact number13_any t (by omega) (by omega) W
    have C2 : ∀ W, Calls Try.prog 54 #[.string ((B t).extract 8 t.length)] W fun e w' => e = .returned (.int .u64 (n2 : Int)) ∧ w' = W := fun W => by
      rw [HX.out.2.1, ext_drop _ _ _ (Nat.le_refl _)]; exact number13_any (t.drop 8) (by rw [List.length_drop]; omega) (by rw [List.length_drop]; omega) W
    have C3 := Lib.hid fun (W : World) => show Calls Try.prog 55 #[.string ((B t).extract 16 t.length)] W fun e w' => e = .returned (.tuple #[.int .i64 k3, .string (B s3)]) ∧ Old W w' by
      have := first_any (t.drop 16) (by rw [List.length_drop]; omega) W
      rw [HX.out.2.2.1] at this
      rw [ext_drop _ _ _ (Nat.le_refl _)]
      exact this
    have l3 : s3.length ≤ 1000000 := by
      have := firstF_len (t.drop 16)
      rw [HX.out.2.2.1, List.length_drop] at this
      dsimp only at this
      omega
    have b3 : k3 ≤ 255 := by
      have := (firstF_num (t.drop 16)).2
      rw [HX.out.2.2.1] at this
      exact this
    have HE := Lib.hid HX.out.2.2.2
    clear HX
    go_enter Try.func23, Try.ntmps23
    go_wp2_with fail
    have BR := new_bk w 41 #[.slice none 0 0, .slice none 0 0, .int .u64 0, .int .u64 0]
    have O1 := (Old.re w).al (.cells #[.slice none 0 0, .slice none 0 0, .int .u64 0, .int .u64 0] 41)
    have hs1 : (w.alloc (.cells #[.slice none 0 0, .slice none 0 0, .int .u64 0, .int .u64 0] 41)).heap.size = w.heap.size + 1 := World.size_alloc _ _
    generalize w.alloc (.cells #[.slice none 0 0, .slice none 0 0, .int .u64 0, .int .u64 0] 41) = w1 at *
    obtain ⟨r, hr⟩ : ∃ r, r = w.heap.size := ⟨_, rfl⟩
    rw [← hr] at BR hs1 ⊢
    have HZ := Lib.hid (show w.heap.size ≤ r ∧ r < w1.heap.size by omega)
    clear hr hs1
    have BR := Lib.hid BR
    have O1 := Lib.hid O1
    go_region_held3 (fun W => Old w1 W) (first | exact Old.re _ | exact (Old.re _).dr | (repeat (first | with_reducible exact Old.re _ | with_reducible assumption | with_reducible apply Old.al | with_reducible apply Old.dr | with_reducible apply Old.dn)) | exact Old.st (by assumption) (by simp) _)
      (first | (go_at_call 54; first | ((with_reducible refine (C1 _).mono ?_); rintro e w' ⟨rfl, rfl⟩) | ((with_reducible refine (C2 _).mono ?_); rintro e w' ⟨rfl, rfl⟩)))
    all_goals (rename_i hHeld; clear hHeld)
    refine ?KK10
    rotate_left
    exact ?KK10
    exact ?KK10
    have LL := Lib.hid (show LB 41 75 w (w1.alloc (.cells #[.slice none 0 0, .slice none 0 0, .int .u64 (n1 : Int), .int .u64 (n2 : Int)] 41)) r w1.heap.size (w1.heap.size + 1) (.slice none 0 0) (.slice none 0 0) [] [] n1 n2 from
      ⟨O1.out.al _, BR.out.alloc _, new_bk _ _ _, OwnE.nil _ _ _, OwnS.nil _ _, by rw [World.size_alloc]; omega, HZ.out.1, HZ.out.2, by omega⟩)
    clear BR C1 C2 O1 HZ
    generalize w1.alloc (.cells #[.slice none 0 0, .slice none 0 0, .int .u64 (n1 : Int), .int .u64 (n2 : Int)] 41) = w4 at *
    generalize w1.heap.size = h at *
    go_wp2_with fail
    refine (C3.out _).mono ?_
    rintro e w5 ⟨rfl, o5⟩
    have LL := Lib.hid (LL.out.to ((Old.re w4).dr.tr o5))
    clear o5 C3
    go_wp2_with fail
    go_loopw [6, 7] (fun s i wr => ∃ (k : Nat) (lk : List Itm) (sk : List UInt8), k ≤ k3.toNat ∧ i = .int .i64 k ∧ s = .string (B sk) ∧ rrFs k s3 = some (lk, sk) ∧ Hid (∃ va, LB 41 75 w wr r h (h + 1) va (.slice none 0 0) lk [] n1 n2)) (fun _ i _ => k3.toNat - (intOf i).toNat)
    case atStart => exact ⟨0, [], s3, Nat.zero_le _, rfl, rfl, rfl, Lib.hid ⟨_, LL.out⟩⟩
    case round =>
      clear LL
      obtain ⟨k, lk, sk, hk, rfl, rfl, hrr, HL⟩ := hrel
      have HRR := Lib.hid hrr
      clear hrr
      by_cases hlt : (k : Int) < k3
      · have hsk : sk.length ≤ 1000000 := by have := (rrFs_len _ _ _ _ HRR.out).2; omega
        have hlk : lk.length ≤ 255 := by have := (rrFs_len _ _ _ _ HRR.out).1; omega
        obtain ⟨va, HV⟩ : ∃ va, Hid (LB 41 75 w wr r h (h + 1) va (.slice none 0 0) lk [] n1 n2) := by
          obtain ⟨va, hv⟩ := HL.out
          exact ⟨va, Lib.hid hv⟩
        clear HL
        obtain ⟨lv, s1, hF1⟩ : ∃ lv s1, firstF sk = (lv, s1) := ⟨_, _, rfl⟩
        obtain ⟨nm, s2, ba, hT1⟩ : ∃ nm s2 ba, takenF s1 = (nm, s2, ba) := ⟨_, _, _, rfl⟩
        obtain ⟨lo, s4, bb, hT2⟩ : ∃ lo s4 bb, takenF s2 = (lo, s4, bb) := ⟨_, _, _, rfl⟩
        obtain ⟨hi2, s5, bc, hT3⟩ : ∃ hi2 s5 bc, takenF s4 = (hi2, s5, bc) := ⟨_, _, _, rfl⟩
        have HF := Lib.hid (show rrF sk = if ba = true ∧ bb = true ∧ bc = true ∧ 2 ≤ s5.length then some (⟨lv, nm, lo, hi2, (lowV (s5.take 2) : Nat)⟩, s5.drop 2) else none by unfold rrF; simp only [hF1, hT1, hT2, hT3])
        have e1 : s1.length ≤ 1000000 := by have := firstF_len sk; rw [hF1] at this; dsimp only at this; omega
        have e2 : s2.length ≤ 1000000 := by have := (takenF_len s1).1; rw [hT1] at this; dsimp only at this; omega
        have e4 : s4.length ≤ 1000000 := by have := (takenF_len s2).1; rw [hT2] at this; dsimp only at this; omega
        have e5 : s5.length ≤ 1000000 := by have := (takenF_len s4).1; rw [hT3] at this; dsimp only at this; omega
        have D1 := Lib.hid fun (W : World) => first_any sk (by omega) W
        have D2 := Lib.hid fun (W : World) => taken_any s1 (by omega) W
        have D3 := Lib.hid fun (W : World) => taken_any s2 (by omega) W
        have D4 := Lib.hid fun (W : World) => taken_any s4 (by omega) W
        rw [hF1] at D1
        rw [hT1] at D2
        rw [hT2] at D3
        rw [hT3] at D4
        clear hF1 hT1 hT2 hT3 e1 e2 e4
        go_wp2_with fail
        have HX := Lib.hid (new_bk wr 75 #[.int .i64 0, .string { data := #[] }, .string { data := #[] }, .string { data := #[] }, .int .i64 0])
        have HO := Lib.hid ((Old.re wr).al (.cells #[.int .i64 0, .string { data := #[] }, .string { data := #[] }, .string { data := #[] }, .int .i64 0] 75))
        generalize wr.alloc (.cells #[.int .i64 0, .string { data := #[] }, .string { data := #[] }, .string { data := #[] }, .int .i64 0] 75) = v0 at *
        obtain ⟨gx, hgx⟩ : ∃ gx, gx = wr.heap.size := ⟨_, rfl⟩
        rw [← hgx] at HX ⊢
        have HG := Lib.hid (show wr.heap.size ≤ gx by omega)
        clear hgx
        refine (D1.out _).mono ?_
        rintro e v1 ⟨rfl, oc⟩
        have HX := Lib.hid (HX.out.old oc)
        have HO := Lib.hid (HO.out.tr oc)
        have ff : v1.frozen? ⟨gx, 0, none⟩ = false := HX.out.fr 0
        have cc : v1.cell? ⟨gx, 0, none⟩ = some _ := HX.out.cell 0
        clear oc D1
        go_wp2_with fail
        have HO := Lib.hid (HO.out.st (p := ⟨gx, 0, none⟩) HG.out (.int .i64 lv))
        have HX := Lib.hid (HX.out.set_ 0 (.int .i64 lv))
        clear ff cc
        generalize v1.setCell ⟨gx, 0, none⟩ (.int .i64 lv) = v1s at *
        refine (D2.out _).mono ?_
        rintro e v2 ⟨rfl, oc⟩
        have HX := Lib.hid (HX.out.old oc)
        have HO := Lib.hid (HO.out.tr oc)
        have ff : v2.frozen? ⟨gx, 1, none⟩ = false := HX.out.fr 1
        have cc : v2.cell? ⟨gx, 1, none⟩ = some _ := HX.out.cell 1
        clear oc D2
        go_wp2_with fail
        have HO := Lib.hid (HO.out.st (p := ⟨gx, 1, none⟩) HG.out (.string (B nm)))
        have HX := Lib.hid (HX.out.set_ 1 (.string (B nm)))
        clear ff cc
        generalize v2.setCell ⟨gx, 1, none⟩ (.string (B nm)) = v2s at *
        refine (D3.out _).mono ?_
        rintro e v3 ⟨rfl, oc⟩
        have HX := Lib.hid (HX.out.old oc)
        have HO := Lib.hid (HO.out.tr oc)
        have ff : v3.frozen? ⟨gx, 2, none⟩ = false := HX.out.fr 2
        have cc : v3.cell? ⟨gx, 2, none⟩ = some _ := HX.out.cell 2
        clear oc D3
        go_wp2_with fail
        have HO := Lib.hid (HO.out.st (p := ⟨gx, 2, none⟩) HG.out (.string (B lo)))
        have HX := Lib.hid (HX.out.set_ 2 (.string (B lo)))
        clear ff cc
        generalize v3.setCell ⟨gx, 2, none⟩ (.string (B lo)) = v3s at *
        refine (D4.out _).mono ?_
        rintro e v4 ⟨rfl, oc⟩
        have HX := Lib.hid (HX.out.old oc)
        have HO := Lib.hid (HO.out.tr oc)
        have ff : v4.frozen? ⟨gx, 3, none⟩ = false := HX.out.fr 3
        have cc : v4.cell? ⟨gx, 3, none⟩ = some _ := HX.out.cell 3
        clear oc D4
        go_upto_region 14 with (fail)
        have HO := Lib.hid (HO.out.st (p := ⟨gx, 3, none⟩) HG.out (.string (B hi2)))
        have HX := Lib.hid (HX.out.set_ 3 (.string (B hi2)))
        clear ff cc
        generalize v4.setCell ⟨gx, 3, none⟩ (.string (B hi2)) = v4s at *
        have LL := Lib.hid (HV.out.to HO.out)
        by_cases hok : ba = true ∧ bb = true ∧ bc = true ∧ 2 ≤ s5.length
        case neg =>
          have HR := Lib.hid (rdecF_none (rr_e1 HE.out hlt (by rw [rrFs_step HRR.out, HF.out, if_neg hok]; rfl)))
          clear HF HE HRR HX HO HV HG hk hlt hsk hlk
          have B10 := LL.out.res
          have O10 := LL.out.old
          have d0 : v4s.cell? ⟨r, 0, none⟩ = some (.slice none 0 0) := B10.cell 0
          have d1 : v4s.cell? ⟨r, 1, none⟩ = some (.slice none 0 0) := B10.cell 1
          have d2 : v4s.cell? ⟨r, 2, none⟩ = some (.int .u64 0) := B10.cell 2
          have d3 : v4s.cell? ⟨r, 3, none⟩ = some (.int .u64 0) := B10.cell 3
          have f0 : v4s.frozen? ⟨r, 0, none⟩ = false := B10.fr 0
          have f1 : v4s.frozen? ⟨r, 1, none⟩ = false := B10.fr 1
          have f2 : v4s.frozen? ⟨r, 2, none⟩ = false := B10.fr 2
          have f3 : v4s.frozen? ⟨r, 3, none⟩ = false := B10.fr 3
          have HLT := Lib.hid LL.out.lt
          have Z := set4_bk B10 (.slice none 0 0) (.slice none 0 0) (.int .u64 0) (.int .u64 0)
          have ZO := Lib.hid (set4_old O10 HLT.out.1 (.slice none 0 0) (.slice none 0 0) (.int .u64 0) (.int .u64 0))
          have y0 := Z.cell 0
          have y1 := Z.cell 1
          have y2 := Z.cell 2
          have y3 := Z.cell 3
          clear Z B10 O10 LL
          cases ba
          case false =>
            clear hok
            go_wp2
            refine bodyPost_ret (v := .tuple #[.agg #[.slice none 0 0, .slice none 0 0, .int .u64 0, .int .u64 0], .int .i64 50]) (by simp [results, Try.results23, go_sem, y0, y1, y2, y3]) rfl ?_
            rw [HR.out]
            exact ⟨_, none, 0, rfl, ZO.out, Itms.nil _, Strs.none _⟩
          case true =>
            cases bb
            case false =>
              clear hok
              go_wp2
              refine bodyPost_ret (v := .tuple #[.agg #[.slice none 0 0, .slice none 0 0, .int .u64 0, .int .u64 0], .int .i64 50]) (by simp [results, Try.results23, go_sem, y0, y1, y2, y3]) rfl ?_
              rw [HR.out]
              exact ⟨_, none, 0, rfl, ZO.out, Itms.nil _, Strs.none _⟩
            case true =>
              cases bc
              case false =>
                clear hok
                go_wp2
                refine bodyPost_ret (v := .tuple #[.agg #[.slice none 0 0, .slice none 0 0, .int .u64 0, .int .u64 0], .int .i64 50]) (by simp [results, Try.results23, go_sem, y0, y1, y2, y3]) rfl ?_
                rw [HR.out]
                exact ⟨_, none, 0, rfl, ZO.out, Itms.nil _, Strs.none _⟩
              case true =>
                have h5 : (s5.length : Int) < 2 := by
                  have : ¬ 2 ≤ s5.length := fun h => hok ⟨rfl, rfl, rfl, h⟩
                  omega
                clear hok
                go_wp2
                refine bodyPost_ret (v := .tuple #[.agg #[.slice none 0 0, .slice none 0 0, .int .u64 0, .int .u64 0], .int .i64 50]) (by simp [results, Try.results23, go_sem, y0, y1, y2, y3]) rfl ?_
                rw [HR.out]
                exact ⟨_, none, 0, rfl, ZO.out, Itms.nil _, Strs.none _⟩
        case pos =>
          obtain ⟨rfl, rfl, rfl, h5⟩ := hok
          have HS := Lib.hid (show rrFs (k + 1) s3 = some (lk ++ [⟨lv, nm, lo, hi2, (lowV (s5.take 2) : Nat)⟩], s5.drop 2) by rw [rrFs_step HRR.out, HF.out, if_pos ⟨rfl, rfl, rfl, h5⟩]; rfl)
          clear HF HRR
          have i0 : 0 < s5.length := by omega
          have i1 : 1 < s5.length := by omega
          have j0 : (0 : Int) < (s5.length : Int) := by omega
          have j1 : (1 : Int) < (s5.length : Int) := by omega
          have j2 : (2 : Int) ≤ (s5.length : Int) := by omega
          have x0 : (B s5)[0]'(by simpa [ByteArray.size] using i0) = s5[0] := rfl
          have x1 : (B s5)[1]'(by simpa [ByteArray.size] using i1) = s5[1] := rfl
          have ff : v4s.frozen? ⟨gx, 4, none⟩ = false := HX.out.fr 4
          have cc : v4s.cell? ⟨gx, 4, none⟩ = some _ := HX.out.cell 4
          go_upto_region 16 with (fail)
          go_region
          obtain ⟨mm, hmm⟩ : ∃ mm : Nat, mm = lowV (s5.take 2) := ⟨_, rfl⟩
          rw [two_val s5 h5, ← hmm]
          rw [← hmm] at HS
          have HX := Lib.hid (show Bk _ gx 75 (icells ⟨lv, nm, lo, hi2, (mm : Int)⟩) from (HX.out.set_ 4 (.int .i64 (mm : Int))).drew)
          have HO := Lib.hid (HO.out.st (p := ⟨gx, 4, none⟩) HG.out (.int .i64 (mm : Int))).dr
          clear LL ff cc hmm HG
          generalize (v4s.setCell ⟨gx, 4, none⟩ (.int .i64 (mm : Int))).drew = v5 at *
          have LL := Lib.hid (HV.out.to HO.out)
          obtain ⟨A5, c5, rfl, -⟩ := LL.out.own.form
          clear HV HO
          have c0 : v5.cell? ⟨h, 0, none⟩ = some (.slice A5 lk.length c5) := LL.out.box.cell 0
          obtain ⟨q0, q1, q2, q3, q4⟩ := HX.out.five
          clear HX
          go_wp2_with (at_builtin; refine wp_itsB rfl (.tmp 96) (.tmp 98) 28 75 Try.underlying28 Try.infoItemR rfl (base := h + 1) ((LL.out.to (old_alloc _ _)).size) (.slice A5 lk.length c5) lk [⟨lv, nm, lo, hi2, (mm : Int)⟩] rfl ((LL.out.to (old_alloc _ _)).own) (.slice (some ⟨v5.heap.size, 0, none⟩) 1 1) rfl (one_its (new_bk _ _ _)) (by simp; omega) ?_; intro v7 w7 n7 gr7; obtain ⟨A7, d7, rfl, -⟩ := n7.form; have B7 := (LL.out.to (old_alloc _ _)).box.row (LL.out.to (old_alloc _ _)).own gr7 (by omega); have c7 := B7.cell 0; have f7 := B7.fr 0)
          have HW := (LL.out.to (old_alloc _ _)).growF (by decide) n7 gr7
          have hlen : (lk ++ [(⟨lv, nm, lo, hi2, (mm : Int)⟩ : Itm)]).length = lk.length + 1 := by simp
          rw [hlen] at HW
          go_roundw
          case rel => exact ⟨k + 1, _, _, by omega, by go_num, by rw [ext_drop _ _ _ (Nat.le_refl _)], HS.out, Lib.hid ⟨_, HW⟩⟩
          case measure => simp [intOf]; omega
      · obtain rfl : k = k3.toNat := by omega
        obtain ⟨va, HV⟩ : ∃ va, Hid (LB 41 75 w wr r h (h + 1) va (.slice none 0 0) lk [] n1 n2) := by
          obtain ⟨va, hv⟩ := HL.out
          exact ⟨va, Lib.hid hv⟩
        clear HL
        have hsk : sk.length ≤ 1000000 := by have := (rrFs_len _ _ _ _ HRR.out).2; omega
        have hlk : lk.length ≤ 255 := by have := (rrFs_len _ _ _ _ HRR.out).1; omega
        obtain ⟨m3, s6, hF2⟩ : ∃ m3 s6, firstF sk = (m3, s6) := ⟨_, _, rfl⟩
        have HE2 := Lib.hid (show rrE t = (rrTs m3.toNat s6).map fun q => (⟨lk, q.1, n1, n2⟩ : Ed) by rw [HE.out, HRR.out, Option.bind_some]; simp only [hF2])
        have D1 := Lib.hid fun (W : World) => first_any sk (by omega) W
        have l6 : s6.length ≤ 1000000 := by have := firstF_len sk; rw [hF2] at this; dsimp only at this; omega
        have b6 : m3 ≤ 255 := by have := (firstF_num sk).2; rw [hF2] at this; exact this
        rw [hF2] at D1
        clear hF2 HE HRR hlt hk b3 l3
        go_wp2_with fail
        refine (D1.out _).mono ?_
        rintro e w5 ⟨rfl, o5⟩
        have LL := Lib.hid (HV.out.to o5)
        clear o5 D1 HV
        go_wp2_with fail
        go_loopw [6, 13] (fun s i wr => ∃ (j : Nat) (lt : List (List UInt8)) (st : List UInt8), j ≤ m3.toNat ∧ i = .int .i64 j ∧ s = .string (B st) ∧ rrTs j s6 = some (lt, st) ∧ Hid (∃ vd, LB 41 75 w wr r h (h + 1) va vd lk lt n1 n2)) (fun _ i _ => m3.toNat - (intOf i).toNat)
        case atStart => exact ⟨0, [], s6, Nat.zero_le _, rfl, rfl, rfl, Lib.hid ⟨_, LL.out⟩⟩
        case round =>
          clear LL
          obtain ⟨j, lt, st, hj, rfl, rfl, hrr, HL⟩ := hrel
          have HRR := Lib.hid hrr
          clear hrr
          obtain ⟨vd, HV⟩ : ∃ vd, Hid (LB 41 75 w wr r h (h + 1) va vd lk lt n1 n2) := by
            obtain ⟨vd, hv⟩ := HL.out
            exact ⟨vd, Lib.hid hv⟩
          clear HL
          have hst : st.length ≤ 1000000 := by have := (rrTs_len _ _ _ _ HRR.out).2.1; omega
          have hlt1 : lt.length ≤ 255 := by have := (rrTs_len _ _ _ _ HRR.out).1; omega
          have hml : ∀ t ∈ lt, t.length ≤ maxLen := fun t ht => by have := (rrTs_len _ _ _ _ HRR.out).2.2 t ht; unfold maxLen; omega
          have hml := Lib.hid hml
          by_cases hlt2 : (j : Int) < m3
          · obtain ⟨x, st2, bx, hT⟩ : ∃ x st2 bx, takenF st = (x, st2, bx) := ⟨_, _, _, rfl⟩
            have HF := Lib.hid (show rrT st = if bx = true then some (x, st2) else none by unfold rrT; simp only [hT])
            have D1 := Lib.hid fun (W : World) => taken_any st (by omega) W
            have hxl : x.length ≤ maxLen := by have := (takenF_len st).2; rw [hT] at this; dsimp only at this; unfold maxLen; omega
            rw [hT] at D1
            clear hT
            go_wp2_with fail
            refine (D1.out _).mono ?_
            rintro e w6 ⟨rfl, o6⟩
            have LL := Lib.hid (HV.out.to o6)
            clear o6 D1 HV
            cases bx
            case false =>
              have HR := Lib.hid (rdecF_none (show rrE t = none by rw [HE2.out, rrTs_none (n := j + 1) (by rw [rrTs_step HRR.out, HF.out]; rfl) _ (by omega)]; rfl))
              clear HF HE2 HRR
              have B10 := LL.out.res
              have O10 := LL.out.old
              have d0 : w6.cell? ⟨r, 0, none⟩ = some (.slice none 0 0) := B10.cell 0
              have d1 : w6.cell? ⟨r, 1, none⟩ = some (.slice none 0 0) := B10.cell 1
              have d2 : w6.cell? ⟨r, 2, none⟩ = some (.int .u64 0) := B10.cell 2
              have d3 : w6.cell? ⟨r, 3, none⟩ = some (.int .u64 0) := B10.cell 3
              have f0 : w6.frozen? ⟨r, 0, none⟩ = false := B10.fr 0
              have f1 : w6.frozen? ⟨r, 1, none⟩ = false := B10.fr 1
              have f2 : w6.frozen? ⟨r, 2, none⟩ = false := B10.fr 2
              have f3 : w6.frozen? ⟨r, 3, none⟩ = false := B10.fr 3
              have HLT := Lib.hid LL.out.lt
              have Z := set4_bk B10 (.slice none 0 0) (.slice none 0 0) (.int .u64 0) (.int .u64 0)
              have ZO := Lib.hid (set4_old O10 HLT.out.1 (.slice none 0 0) (.slice none 0 0) (.int .u64 0) (.int .u64 0))
              have y0 := Z.cell 0
              have y1 := Z.cell 1
              have y2 := Z.cell 2
              have y3 := Z.cell 3
              clear Z B10 O10 LL
              go_wp2
              refine bodyPost_ret (v := .tuple #[.agg #[.slice none 0 0, .slice none 0 0, .int .u64 0, .int .u64 0], .int .i64 50]) (by simp [results, Try.results23, go_sem, y0, y1, y2, y3]) rfl ?_
              rw [HR.out]
              exact ⟨_, none, 0, rfl, ZO.out, Itms.nil _, Strs.none _⟩
            case true =>
              have HS := Lib.hid (show rrTs (j + 1) s6 = some (lt ++ [x], st2) by rw [rrTs_step HRR.out, HF.out]; rfl)
              clear HF HRR
              obtain ⟨A5, c5, rfl, -⟩ := LL.out.owns.strs hml.out
              have c0 : w6.cell? ⟨h, 1, none⟩ = some (.slice A5 lt.length c5) := LL.out.box.cell 1
              go_wp2_with (at_builtin; refine wp_strB rfl (.tmp 121) (.tmp 123) rfl (base := h + 1) ((LL.out.to (old_alloc _ _)).size) (.slice A5 lt.length c5) lt rfl ((LL.out.to (old_alloc _ _)).owns) x w6.heap.size rfl (new_bk _ _ _) (by omega) ?_; intro v7 w7 n7 gr7; obtain ⟨A7, d7, rfl, -⟩ := n7.strs (fun t ht => (List.mem_append.1 ht).elim (hml.out t) (fun h => by rw [List.mem_singleton.1 h]; exact hxl)); have B7 := (LL.out.to (old_alloc _ (.cells #[.string (B x)] 9))).box.row (LL.out.to (old_alloc _ (.cells #[.string (B x)] 9))).owns gr7 (by omega); have c7 := B7.cell 1; have f7 := B7.fr 1)
              have HW := (LL.out.to (old_alloc _ (.cells #[.string (B x)] 9))).growS (by decide) n7 gr7
              have hlen : (lt ++ [x]).length = lt.length + 1 := by simp
              rw [hlen] at HW
              go_roundw
              case rel => exact ⟨j + 1, _, _, by omega, by go_num, rfl, HS.out, Lib.hid ⟨_, HW⟩⟩
              case measure => simp [intOf]; omega
          · obtain rfl : j = m3.toNat := by omega
            have HE := Lib.hid (show rrE t = some ⟨lk, lt, n1, n2⟩ by rw [HE2.out, HRR.out]; rfl)
            clear HE2 HRR hlt2 hj
            obtain ⟨Ad, cd, rfl, HD⟩ := HV.out.owns.strs hml.out
            obtain ⟨Aa, ca, rfl, -⟩ := HV.out.own.form
            have HD := Lib.hid HD
            have c0 : wr.cell? ⟨h, 0, none⟩ = some (.slice Aa lk.length ca) := HV.out.box.cell 0
            have c1 : wr.cell? ⟨h, 1, none⟩ = some (.slice Ad lt.length cd) := HV.out.box.cell 1
            have c2 : wr.cell? ⟨h, 2, none⟩ = some (.int .u64 (n1 : Int)) := HV.out.box.cell 2
            have c3 : wr.cell? ⟨h, 3, none⟩ = some (.int .u64 (n2 : Int)) := HV.out.box.cell 3
            go_wp2_with fail
            refine (rencode_any wr ⟨lk, lt, n1, n2⟩ (.slice Aa lk.length ca) Ad cd HV.out.own.its HD.out (by simp; omega) (by simp; omega) b1 b2).mono ?_
            rintro e w10 ⟨rfl, o10⟩
            have O10 := Lib.hid (HV.out.old.tr o10)
            have HO10 := Lib.hid (HV.out.own.old o10)
            have HD10 := Lib.hid (own_stays HV.out.owns (fun i ob _ hi => (o10.block i (Array.getElem?_eq_some_iff.1 hi).1).trans hi))
            have HDS := hml
            have B10 := HV.out.res.old o10
            have X10 := HV.out.box.old o10
            have HLT := Lib.hid HV.out.lt
            clear c0 c1 c2 c3 HV HD o10 hml
            have c0 : w10.cell? ⟨h, 0, none⟩ = some (.slice Aa lk.length ca) := X10.cell 0
            have c1 : w10.cell? ⟨h, 1, none⟩ = some (.slice Ad lt.length cd) := X10.cell 1
            have c2 : w10.cell? ⟨h, 2, none⟩ = some (.int .u64 (n1 : Int)) := X10.cell 2
            have c3 : w10.cell? ⟨h, 3, none⟩ = some (.int .u64 (n2 : Int)) := X10.cell 3
            have d0 : w10.cell? ⟨r, 0, none⟩ = some (.slice none 0 0) := B10.cell 0
            have d1 : w10.cell? ⟨r, 1, none⟩ = some (.slice none 0 0) := B10.cell 1
            have d2 : w10.cell? ⟨r, 2, none⟩ = some (.int .u64 0) := B10.cell 2
            have d3 : w10.cell? ⟨r, 3, none⟩ = some (.int .u64 0) := B10.cell 3
            have f0 : w10.frozen? ⟨r, 0, none⟩ = false := B10.fr 0
            have f1 : w10.frozen? ⟨r, 1, none⟩ = false := B10.fr 1
            have f2 : w10.frozen? ⟨r, 2, none⟩ = false := B10.fr 2
            have f3 : w10.frozen? ⟨r, 3, none⟩ = false := B10.fr 3
            have B10 := Lib.hid B10
            clear X10
            have hno : encF ⟨lk, lt, n1, n2⟩ ≠ (0, t) → Hid (rdecF t = (50, Ed0)) := fun h => Lib.hid (rdecF_no HE.out h)
            have hyes : encF ⟨lk, lt, n1, n2⟩ = (0, t) → Hid (rdecF t = (0, ⟨lk, lt, n1, n2⟩)) := fun h => Lib.hid (rdecF_yes HE.out h)
            rcases enc_cases ⟨lk, lt, n1, n2⟩ with hE | hE | hE
            ·
              have HR := hno (by rw [hE]; simp)
              rw [hE]
              clear hno hyes hE HO10 HD10
              go_wp2
              have Z := set4_bk B10.out (.slice none 0 0) (.slice none 0 0) (.int .u64 0) (.int .u64 0)
              have ZO := set4_old O10.out HLT.out.1 (.slice none 0 0) (.slice none 0 0) (.int .u64 0) (.int .u64 0)
              have y0 := Z.cell 0
              have y1 := Z.cell 1
              have y2 := Z.cell 2
              have y3 := Z.cell 3
              refine bodyPost_ret (v := .tuple #[.agg #[.slice none 0 0, .slice none 0 0, .int .u64 0, .int .u64 0], .int .i64 50]) (by simp [results, Try.results23, go_sem, y0, y1, y2, y3]) rfl ?_
              rw [HR.out]
              exact ⟨_, none, 0, rfl, ZO, Itms.nil _, Strs.none _⟩
            ·
              have HR := hno (by rw [hE]; simp)
              rw [hE]
              clear hno hyes hE HO10 HD10
              go_wp2
              have Z := set4_bk B10.out (.slice none 0 0) (.slice none 0 0) (.int .u64 0) (.int .u64 0)
              have ZO := set4_old O10.out HLT.out.1 (.slice none 0 0) (.slice none 0 0) (.int .u64 0) (.int .u64 0)
              have y0 := Z.cell 0
              have y1 := Z.cell 1
              have y2 := Z.cell 2
              have y3 := Z.cell 3
              refine bodyPost_ret (v := .tuple #[.agg #[.slice none 0 0, .slice none 0 0, .int .u64 0, .int .u64 0], .int .i64 50]) (by simp [results, Try.results23, go_sem, y0, y1, y2, y3]) rfl ?_
              rw [HR.out]
              exact ⟨_, none, 0, rfl, ZO, Itms.nil _, Strs.none _⟩
            · generalize encB ⟨lk, lt, n1, n2⟩ = q at *
              rw [hE] at hno hyes ⊢
              clear hE
              by_cases hq : q = t
              case neg =>
                have HR := hno (by simpa using hq)
                have hq2 : (q == t) = false := by simpa using hq
                clear hno hyes HO10 HD10
                go_wp2
                have Z := set4_bk B10.out (.slice none 0 0) (.slice none 0 0) (.int .u64 0) (.int .u64 0)
                have ZO := set4_old O10.out HLT.out.1 (.slice none 0 0) (.slice none 0 0) (.int .u64 0) (.int .u64 0)
                have y0 := Z.cell 0
                have y1 := Z.cell 1
                have y2 := Z.cell 2
                have y3 := Z.cell 3
                refine bodyPost_ret (v := .tuple #[.agg #[.slice none 0 0, .slice none 0 0, .int .u64 0, .int .u64 0], .int .i64 50]) (by simp [results, Try.results23, go_sem, y0, y1, y2, y3]) rfl ?_
                rw [HR.out]
                exact ⟨_, none, 0, rfl, ZO, Itms.nil _, Strs.none _⟩
              case pos =>
                subst hq
                have HR := hyes rfl
                clear hno hyes
                go_wp2
                have Z := set4_bk B10.out (.slice Aa lk.length ca) (.slice Ad lt.length cd) (.int .u64 (n1 : Int)) (.int .u64 (n2 : Int))
                have ZO := set4_old O10.out HLT.out.1 (.slice Aa lk.length ca) (.slice Ad lt.length cd) (.int .u64 (n1 : Int)) (.int .u64 (n2 : Int))
                have ZF := own_stays HO10.out (set4_stays w10 (r := r) (by have := HLT.out; omega) (.slice Aa lk.length ca) (.slice Ad lt.length cd) (.int .u64 (n1 : Int)) (.int .u64 (n2 : Int)))
                have ZD := own_stays HD10.out (set4_stays w10 (r := r) (by have := HLT.out; omega) (.slice Aa lk.length ca) (.slice Ad lt.length cd) (.int .u64 (n1 : Int)) (.int .u64 (n2 : Int)))
                obtain ⟨A9, c9, e9, ZS⟩ := OwnS.strs ZD HDS.out
                injection e9 with ea eb ec
                subst ea ec
                have y0 := Z.cell 0
                have y1 := Z.cell 1
                have y2 := Z.cell 2
                have y3 := Z.cell 3
                refine bodyPost_ret (v := .tuple #[.agg #[.slice Aa lk.length ca, .slice Ad lt.length cd, .int .u64 (n1 : Int), .int .u64 (n2 : Int)], .int .i64 0]) (by simp [results, Try.results23, go_sem, y0, y1, y2, y3]) rfl ?_
                rw [HR.out]
                exact ⟨_, _, _, rfl, ZO, OwnE.its ZF, ZS⟩
end Go.Proofs.Yteglddggjkibcaa
