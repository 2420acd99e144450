/-
  ManifestSwaps: files that take the place of others, and others that take theirs, are as if nothing had happened: the law answers true, whatever comes in, and leaves all as it was. No conditions.
-/
import Derived.Test.YteglddggjkibcaaFRu2
namespace Go.Proofs.Yteglddggjkibcaa
open Go.ChangeShapes Go.WideShapes Go.ChangeAt Go.RowKit Go.Joins Go.Deep

def eS (x : Itm) (d : List (List UInt8)) : Ed := ⟨[x], d, 0, 0⟩
/-- The file by another name. -/
def ren (f : Itm) (name : List UInt8) : Itm := ⟨f.lev, name, f.low, f.high, f.many⟩
theorem swp_1 {f : Itm} (h : mayF f = true) : apF St0 (eS f []) = (0, ⟨[f], 0, 0⟩) := by
  rw [apR_2 (by simp [eS, h]) (Nat.le_refl _) (Nat.le_refl _)]
  show (if crossL [f] = true then _ else _) = _
  rw [crs_one]
  rfl
theorem swp_no {f g : Itm} (h : mayF g = false) (d : List (List UInt8)) : apF ⟨[f], 0, 0⟩ (eS g d) = (1, St0) := ap_1 (.inl (by simp [eS, h]))
theorem swp_2 {f g : Itm} (h : mayF g = true) : apF ⟨[f], 0, 0⟩ (eS g [f.name]) = (0, ⟨[g], 0, 0⟩) := by
  rw [apR_2 (by simp [eS, h]) (Nat.le_refl _) (Nat.le_refl _)]
  have h1 : rdropF (isort ([f] : List Itm)) (eS g [f.name]).del = some [] := by
    show (match findN [f] f.name with | none => none | some k => rdropF (([f] : List Itm).take k ++ ([f] : List Itm).drop (k + 1)) []) = _
    have : findN [f] f.name = some 0 := by simp [findN]
    rw [this]
    rfl
  show (match rdropF (isort ([f] : List Itm)) (eS g [f.name]).del with | none => _ | some l => _) = _
  rw [h1]
  show (if crossL [g] = true then _ else _) = _
  rw [crs_one]
  rfl
theorem good_one {f : Itm} (h : mayF f = true) : Good ⟨[f], 0, 0⟩ := ⟨List.pairwise_singleton _ _, by simp [Once], fun x hx => by rw [List.mem_singleton.1 hx]; exact h, fun hc => by
  have := (crossL_iff [f]).2 hc
  rw [crs_one] at this
  cases this⟩
theorem one_strs {e : TypeId} {w : World} {g : Nat} {t : List UInt8} (h : Bk w g e #[.string (B t)]) (hl : t.length ≤ maxLen) : Strs w (some ⟨g, 0, none⟩) 1 [t] := by
  refine ⟨Nat.le_refl _, fun i x hx => ?_⟩
  cases i with
  | zero => simp at hx; subst hx; exact ⟨hl, g, 0, rfl, h.cell 0⟩
  | succ i => simp at hx

set_option maxRecDepth 100000 in
set_option maxHeartbeats 16000000 in
theorem law_walk (f : Itm) (name : List UInt8) (hln : name.length ≤ maxLen) (w : World) :
    Calls Try.prog 6 #[iv f, .string (B name)] w fun r w' => r = .returned (.bool true) ∧ Old w w' := by
  have hln2 : name.length ≤ 9223372036854775807 := by unfold maxLen at hln; omega
  clear hln
  go_enter Try.func6, Try.ntmps6
  go_wp2_with fail
  have hb := new_bk1 w (.cells (icells f) 60) 60 (icells f)
  have F1 := (new_bk w 60 (icells f)).alloc (.cells (icells f) 60)
  have O1 := ((Old.re w).al (.cells (icells f) 60)).al (.cells (icells f) 60)
  refine (bounded_any _ _ [f] (one_its hb) (by unfold maxLen; simp)).mono ?_
  rintro r w1 ⟨rfl, hw1⟩
  subst hw1
  generalize (w.alloc (.cells (icells f) 60)).alloc (.cells (icells f) 60) = w1 at *
  obtain ⟨h0, hh⟩ : ∃ h0, h0 = w.heap.size := ⟨_, rfl⟩
  rw [← hh] at F1 ⊢
  clear hh hb
  obtain ⟨x0, x1, x2, x3, x4⟩ := F1.five
  cases hbF : boundF [f] with
  | false =>
    clear hbF
    go_wp2_with (go_at_call 9; refine (shown_any _).mono ?_; rintro r w9 ⟨rfl, o9⟩)
    go_ret
    exact ⟨rfl, O1.tr o9⟩
  | true =>
    have hfn : f.name.length ≤ 100 := by
      have h1 := hbF
      unfold boundF at h1
      simp only [Bool.and_eq_true, List.all_eq_true] at h1
      have h2 := h1.1 f List.mem_cons_self
      unfold smallI at h2
      simp only [Bool.and_eq_true, decide_eq_true_iff] at h2
      exact h2.1
    clear hbF
    by_cases hnl : name.length ≤ 100
    case neg =>
      go_wp2_with (go_at_call 9; refine (shown_any _).mono ?_; rintro r w9 ⟨rfl, o9⟩)
      go_ret
      exact ⟨rfl, O1.tr o9⟩
    have dnl : decide ((100 : Int) < (name.length : Int)) = false := by simp; omega
    have C := Lib.hid (fun W => may_any f W)
    cases hm : mayF f with
    | false =>
      rw [hm] at C
      clear hm
      go_wp2_with fail
      refine (C.out w1).mono ?_
      rintro r w2 ⟨rfl, o2⟩
      clear x0 x1 x2 x3 x4
      go_wp2_with (go_at_call 9; refine (shown_any _).mono ?_; rintro r w9 ⟨rfl, o9⟩)
      go_ret
      exact ⟨rfl, (O1.tr o2).tr o9⟩
    | true =>
      rw [hm] at C
      have HM := Lib.hid hm
      clear hm
      go_wp2_with fail
      refine (C.out w1).mono ?_
      rintro r w2 ⟨rfl, o2⟩
      have F2 := F1.old o2
      have O2 := O1.tr o2
      clear x0 x1 x2 x3 x4 F1 O1 o2 C
      obtain ⟨x0, x1, x2, x3, x4⟩ := F2.five
      by_cases hne : name = f.name
      case pos =>
        have dne : (name == f.name) = true := by simpa using hne
        clear hne
        go_wp2_with (go_at_call 9; refine (shown_any _).mono ?_; rintro r w9 ⟨rfl, o9⟩)
        go_ret
        exact ⟨rfl, O2.tr o9⟩
      have dne : (name == f.name) = false := by simpa using hne
      have HNE := Lib.hid hne
      clear hne
      go_wp2_with fail
      refine (shown_any w2).mono ?_
      rintro r w3 ⟨rfl, o3⟩
      have F3 := F2.old o3
      have O3 := O2.tr o3
      clear x0 x1 x2 x3 x4 F2 O2 o3 dne
      obtain ⟨x0, x1, x2, x3, x4⟩ := F3.five
      go_wp2_with fail
      have hb := new_bk w3 60 (icells f)
      have O4 := old_alloc w3 (.cells (icells f) 60)
      refine Calls.mono (apply_any (w3.alloc (.cells (icells f) 60)) St0 (eS f []) good0 (.slice none 0 0) (.slice (some ⟨w3.heap.size, 0, none⟩) 1 1) none 0 (Itms.nil _) (one_its hb) (Strs.none _) (by simp) (by simp [eS]) (by simp [eS]) (by simp) (by simp [eS]; omega) (by simp [eS])) ?_
      rw [swp_1 HM.out]
      rintro r w5 ⟨v5, rfl, o5, n5⟩
      obtain ⟨A5, c5, rfl, -⟩ : ∃ A c, v5 = .slice A 1 c ∧ 1 ≤ c := n5.form
      have O5 := (O4.tr o5).al (.cells #[.slice A5 1 c5, .int .u64 0, .int .u64 0] 27)
      have F6 := Lib.hid (F3.old O5)
      have O6 := O3.tr O5
      have T6 := Lib.hid (new_bk w5 27 #[.slice A5 1 c5, .int .u64 0, .int .u64 0])
      have HV6 := Lib.hid (n5.its.old (old_alloc w5 (.cells #[.slice A5 1 c5, .int .u64 0, .int .u64 0] 27)))
      clear hb O4 o5 n5 O5 F3 O3 x0 x1 x2 x3 x4
      go_upto_region 4 with (fail)
      generalize w5.heap.size = g5 at *
      generalize w5.alloc (.cells #[.slice A5 1 c5, .int .u64 0, .int .u64 0] 27) = w6 at *
      obtain ⟨x0, x1, x2, x3, x4⟩ := F6.out.five
      go_upto_region 6 with (fail)
      have F7 := Lib.hid (F6.out.alloc (.cells #[.int .i64 f.lev, .string (B name), .string (B f.low), .string (B f.high), .int .i64 f.many] 60))
      have T7 := Lib.hid (T6.out.alloc (.cells #[.int .i64 f.lev, .string (B name), .string (B f.low), .string (B f.high), .int .i64 f.many] 60))
      have HV7 := Lib.hid (HV6.out.old (old_alloc w6 (.cells #[.int .i64 f.lev, .string (B name), .string (B f.low), .string (B f.high), .int .i64 f.many] 60)))
      have G7 := Lib.hid (new_bk w6 60 #[.int .i64 f.lev, .string (B name), .string (B f.low), .string (B f.high), .int .i64 f.many])
      have O7 := O6.al (.cells #[.int .i64 f.lev, .string (B name), .string (B f.low), .string (B f.high), .int .i64 f.many] 60)
      clear x0 x1 x2 x3 x4 F6 T6 HV6 O6
      generalize w6.heap.size = g7 at *
      generalize w6.alloc (.cells #[.int .i64 f.lev, .string (B name), .string (B f.low), .string (B f.high), .int .i64 f.many] 60) = w7 at *
      obtain ⟨x0, x1, x2, x3, x4⟩ := F7.out.five
      obtain ⟨y0, y1, y2, y3, y4⟩ := Bk.five (x := ren f name) G7.out
      dsimp only [ren] at y0 y1 y2 y3 y4
      have t0 : w7.cell? ⟨g5, 0, none⟩ = some (.slice A5 1 c5) := T7.out.cell 0
      have t1 : w7.cell? ⟨g5, 1, none⟩ = some (.int .u64 0) := T7.out.cell 1
      have t2 : w7.cell? ⟨g5, 2, none⟩ = some (.int .u64 0) := T7.out.cell 2
      have x1b : (w7.alloc (.cells #[.int .i64 f.lev, .string (B name), .string (B f.low), .string (B f.high), .int .i64 f.many] 60)).cell? ⟨h0, 1, none⟩ = some (.string (B f.name)) := (F7.out.alloc _).cell 1
      go_wp2_with fail
      have hb := (new_bk w7 60 #[.int .i64 f.lev, .string (B name), .string (B f.low), .string (B f.high), .int .i64 f.many]).alloc (.cells #[.string (B f.name)] 9)
      have hb2 := new_bk1 w7 (.cells #[.int .i64 f.lev, .string (B name), .string (B f.low), .string (B f.high), .int .i64 f.many] 60) 9 #[.string (B f.name)]
      have O8 := (old_alloc w7 (.cells #[.int .i64 f.lev, .string (B name), .string (B f.low), .string (B f.high), .int .i64 f.many] 60)).al (.cells #[.string (B f.name)] 9)
      refine Calls.mono (apply_any ((w7.alloc (.cells #[.int .i64 f.lev, .string (B name), .string (B f.low), .string (B f.high), .int .i64 f.many] 60)).alloc (.cells #[.string (B f.name)] 9)) ⟨[f], 0, 0⟩ (eS (ren f name) [f.name]) (good_one HM.out) (.slice A5 1 c5) (.slice (some ⟨w7.heap.size, 0, none⟩) 1 1) (some ⟨w7.heap.size + 1, 0, none⟩) 1 (HV7.out.old O8) (one_its (x := ren f name) hb) (one_strs hb2 (by unfold maxLen; omega)) (by simp) (by simp [eS]) (by simp [eS]) (by simp; omega) (by simp [eS, ren]; omega) (by simp [eS]; omega)) ?_
      have C := Lib.hid (fun W => may_any (ren f name) W)
      clear x0 x1 x2 x3 x4 y0 y1 y2 y3 y4 t0 t1 t2 x1b hb hb2
      cases hg : mayF (ren f name) with
      | false =>
        rw [hg] at C
        rw [swp_no hg]
        clear hg
        rintro r w8 ⟨v8, rfl, o8, n8⟩
        obtain ⟨A8, c8, rfl, -⟩ : ∃ A c, v8 = .slice A 0 c ∧ 0 ≤ c := n8.form
        have O9 := (O8.tr o8).al (.cells #[.slice A8 0 c8, .int .u64 0, .int .u64 0] 27)
        clear n8 o8 O8
        go_upto_region 7 with (fail)
        have G9 := G7.out.old O9
        have O10 := O7.tr O9
        generalize w8.alloc (.cells #[.slice A8 0 c8, .int .u64 0, .int .u64 0] 27) = w9 at *
        obtain ⟨y0, y1, y2, y3, y4⟩ := Bk.five (x := ren f name) G9
        dsimp only [ren] at y0 y1 y2 y3 y4
        clear G9 O9
        go_wp2_with fail
        refine (C.out w9).mono ?_
        rintro r w10 ⟨rfl, o10⟩
        clear y0 y1 y2 y3 y4
        go_wp2
        go_ret
        exact ⟨rfl, O10.tr o10⟩
      | true =>
        rw [hg] at C
        rw [swp_2 hg]
        have HGG := Lib.hid hg
        clear hg
        rintro r w8 ⟨v8, rfl, o8, n8⟩
        obtain ⟨A8, c8, rfl, -⟩ : ∃ A c, v8 = .slice A 1 c ∧ 1 ≤ c := n8.form
        have O9 := (O8.tr o8).al (.cells #[.slice A8 1 c8, .int .u64 0, .int .u64 0] 27)
        have T8 := new_bk w8 27 #[.slice A8 1 c8, .int .u64 0, .int .u64 0]
        have HV8 := n8.its.old (old_alloc w8 (.cells #[.slice A8 1 c8, .int .u64 0, .int .u64 0] 27))
        clear n8 o8 O8
        go_upto_region 7 with (fail)
        have G9 := G7.out.old O9
        have F9 := F7.out.old O9
        have T5 := T7.out.old O9
        have HV5 := HV7.out.old O9
        have O10 := O7.tr O9
        generalize w8.heap.size = g8 at *
        generalize w8.alloc (.cells #[.slice A8 1 c8, .int .u64 0, .int .u64 0] 27) = w9 at *
        obtain ⟨y0, y1, y2, y3, y4⟩ := Bk.five (x := ren f name) G9
        dsimp only [ren] at y0 y1 y2 y3 y4
        clear O9 G9 F7 G7 T7 HV7 O7
        go_wp2_with fail
        refine (C.out w9).mono ?_
        rintro r w10 ⟨rfl, o10⟩
        have F10 := Lib.hid (F9.old o10)
        have T10 := Lib.hid (T8.old o10)
        have HV10 := Lib.hid (HV8.old o10)
        have T5 := Lib.hid (T5.old o10)
        have HV5 := Lib.hid (HV5.old o10)
        have O11 := O10.tr o10
        clear y0 y1 y2 y3 y4 F9 T8 HV8 O10 o10 C
        obtain ⟨x0, x1, x2, x3, x4⟩ := F10.out.five
        have t0 : w10.cell? ⟨g8, 0, none⟩ = some (.slice A8 1 c8) := T10.out.cell 0
        have t1 : w10.cell? ⟨g8, 1, none⟩ = some (.int .u64 0) := T10.out.cell 1
        have t2 : w10.cell? ⟨g8, 2, none⟩ = some (.int .u64 0) := T10.out.cell 2
        go_wp2_with fail
        have hb := (new_bk w10 60 (icells f)).alloc (.cells #[.string (B name)] 9)
        have hb2 := new_bk1 w10 (.cells (icells f) 60) 9 #[.string (B name)]
        have O12 := (old_alloc w10 (.cells (icells f) 60)).al (.cells #[.string (B name)] 9)
        have hap : apF ⟨[ren f name], 0, 0⟩ (eS f [name]) = (0, ⟨[f], 0, 0⟩) := swp_2 (f := ren f name) HM.out
        refine Calls.mono (apply_any ((w10.alloc (.cells (icells f) 60)).alloc (.cells #[.string (B name)] 9)) ⟨[ren f name], 0, 0⟩ (eS f [name]) (good_one HGG.out) (.slice A8 1 c8) (.slice (some ⟨w10.heap.size, 0, none⟩) 1 1) (some ⟨w10.heap.size + 1, 0, none⟩) 1 (HV10.out.old O12) (one_its hb) (one_strs hb2 (by unfold maxLen; omega)) (by simp) (by simp [eS]) (by simp [eS]) (by simp [ren]; omega) (by simp [eS]; omega) (by simp [eS]; omega)) ?_
        rw [hap]
        clear x0 x1 x2 x3 x4 t0 t1 t2 hb hb2 hap
        rintro r w11 ⟨v11, rfl, o11, n11⟩
        obtain ⟨A11, c11, rfl, -⟩ : ∃ A c, v11 = .slice A 1 c ∧ 1 ≤ c := n11.form
        have O13 := (O12.tr o11).al (.cells #[.slice A11 1 c11, .int .u64 0, .int .u64 0] 27)
        have T11 := new_bk w11 27 #[.slice A11 1 c11, .int .u64 0, .int .u64 0]
        have HU := Lib.hid (n11.its.old (old_alloc w11 (.cells #[.slice A11 1 c11, .int .u64 0, .int .u64 0] 27)))
        clear n11 o11 O12
        go_upto_region 10 with (fail)
        have T8 := T10.out.old O13
        have HT := HV10.out.old O13
        have T5 := T5.out.old O13
        have HS := Lib.hid (HV5.out.old O13)
        have O14 := O11.tr O13
        generalize w11.heap.size = g11 at *
        generalize w11.alloc (.cells #[.slice A11 1 c11, .int .u64 0, .int .u64 0] 27) = w10 at *
        obtain ⟨b8, off8, rfl, hx8⟩ := HT.at_ (i := 0) (x := ren f name) rfl
        have y1 : w10.cell? ⟨b8, off8 + 1, none⟩ = some (.string (B name)) := by
          have := hx8.a1
          simpa [ren] using this
        have t0 : w10.cell? ⟨g11, 0, none⟩ = some (.slice A11 1 c11) := T11.cell 0
        have t1 : w10.cell? ⟨g5, 0, none⟩ = some (.slice A5 1 c5) := T5.cell 0
        have t2 : w10.cell? ⟨g8, 0, none⟩ = some (.slice (some ⟨b8, off8, none⟩) 1 c8) := T8.cell 0
        have hS : ∀ W, Old w10 W → (Old w10 W ∧ W.cell? ⟨g11, 0, none⟩ = some (.slice A11 1 c11) ∧ W.cell? ⟨g5, 0, none⟩ = some (.slice A5 1 c5) ∧ W.cell? ⟨g8, 0, none⟩ = some (.slice (some ⟨b8, off8, none⟩) 1 c8) ∧ W.cell? ⟨b8, off8 + 1, none⟩ = some (.string (B name))) := fun W q => ⟨q, cell_old t0 q, cell_old t1 q, cell_old t2 q, cell_old y1 q⟩
        have Owr := Old.re w10
        have dnn : (name == name) = true := by simp
        clear O13 T10 HV10 T8 HT T5 HV5 T11 hx8 F10 O11
        go_wp2_with fail
        go_region_held3 (fun W => Old w10 W ∧ W.cell? ⟨g11, 0, none⟩ = some (.slice A11 1 c11) ∧ W.cell? ⟨g5, 0, none⟩ = some (.slice A5 1 c5) ∧ W.cell? ⟨g8, 0, none⟩ = some (.slice (some ⟨b8, off8, none⟩) 1 c8) ∧ W.cell? ⟨b8, off8 + 1, none⟩ = some (.string (B name)))
          (first | exact hS _ (Old.re _).dr | exact hS _ (by repeat (first | with_reducible exact Old.re _ | with_reducible assumption | with_reducible apply Old.al | with_reducible apply Old.dr | with_reducible apply Old.dn)))
          (first
            | (go_at_call 15; (with_reducible refine (files_any _ _ [f] (HU.out.old (by repeat (first | with_reducible exact Old.re _ | with_reducible assumption | with_reducible apply Old.al | with_reducible apply Old.dr | with_reducible apply Old.dn))) (by simp)).mono ?_); rintro r wa ⟨ua, rfl, oa, na⟩; (try have HU := Lib.hid (HU.out.old (by first | exact oa | exact ((Old.re _).dr).tr oa))); (try have HS := Lib.hid (HS.out.old (by first | exact oa | exact ((Old.re _).dr).tr oa))); (try have HUf := Lib.hid (HUf.out.old (by first | exact oa | exact ((Old.re _).dr).tr oa))); (try have HSf := Lib.hid (HSf.out.old (by first | exact oa | exact ((Old.re _).dr).tr oa))); have Owr : Old w10 wa := (by first | exact Owr.tr oa | exact Owr.dr.tr oa); have HUf := Lib.hid na.its; clear na oa)
            | (go_at_call 15; (with_reducible refine (files_any _ _ [f] (HS.out.old (by repeat (first | with_reducible exact Old.re _ | with_reducible assumption | with_reducible apply Old.al | with_reducible apply Old.dr | with_reducible apply Old.dn))) (by simp)).mono ?_); rintro r wb ⟨ub, rfl, ob, nb⟩; (try have HU := Lib.hid (HU.out.old (by first | exact ob | exact ((Old.re _).dr).tr ob))); (try have HS := Lib.hid (HS.out.old (by first | exact ob | exact ((Old.re _).dr).tr ob))); (try have HUf := Lib.hid (HUf.out.old (by first | exact ob | exact ((Old.re _).dr).tr ob))); (try have HSf := Lib.hid (HSf.out.old (by first | exact ob | exact ((Old.re _).dr).tr ob))); have Owr : Old w10 wb := (by first | exact Owr.tr ob | exact Owr.dr.tr ob); have HSf := Lib.hid nb.its; clear nb ob)
            | (go_at_call 14; (with_reducible refine (sameFiles_any _ _ _ [f] (HUf.out.old (by repeat (first | with_reducible exact Old.re _ | with_reducible assumption | with_reducible apply Old.al | with_reducible apply Old.dr | with_reducible apply Old.dn))) (HSf.out.old (by repeat (first | with_reducible exact Old.re _ | with_reducible assumption | with_reducible apply Old.al | with_reducible apply Old.dr | with_reducible apply Old.dn))) (by simp)).mono ?_); rintro r wg ⟨rfl, og⟩; have Owr : Old w10 wg := (by first | exact Owr.tr og | exact Owr.dr.tr og); clear og))
        all_goals
          rename_i hHeld
          have O20 := O14.tr hHeld.1
          clear hHeld hS
          go_wp2
          go_ret
          exact ⟨rfl, O20⟩

set_option maxRecDepth 100000 in
theorem manifestSwaps_lifted (os : Os) (started : os.Started) (H : Type) (enc : TypeId × Value → H) :
    ReturnsInHanded {} Try.checked os 6 .any (Rows.manifestSwapsSpec.pre6 enc Try.prog Try.f6 Rows.manifestSwapsRow.domain false) (Rows.manifestSwapsSpec.post enc Try.prog Try.f6 false true false false) := by
  refine returnsInHanded_of_change_sized (C := Try.checked) Try.own started (by kernel_rfl) Try.func6
    (ChangeSpec.witness6 (enc := enc) (C := Try.checked) false ⟨#[], #[.agg zeroItem, .string ByteArray.empty], []⟩ 8 (by kernel_rfl) (by kernel_rfl) (by kernel_rfl) (by kernel_rfl)) ?_
  intro W base args ds gs before hval0 hW hcnd hsz0 _
  have hval : ∀ (j : Nat) t v, Try.f6.params[j]? = some t → args[j]? = some v → Value.okWide Try.prog W .any base t v := hval0
  have hW' := hW
  obtain ⟨p, q, hA0, hV, rfl, hfz, hnd⟩ := hW
  have hA : DataW.TrodAll enc Try.prog W 0 (fun _ => true) true Try.f6.params.toList args.toList ds p := hA0
  have hsz : (DataW.weightsEach Try.prog (Try.f6.params.toList ++ Rows.manifestSwapsSpec.plain.varTypes Try.prog) (ds ++ gs)).all (· ≤ reachBytes) = true := hsz0
  rw [Try.params6] at hA hval hsz
  obtain ⟨v0, v1, d0, d1, p0, p1, rfl, rfl, rfl, h0, h1⟩ := trodAll_two hA
  obtain ⟨rfl, rfl⟩ := trodVars_none hV
  have hlt : ∀ x ∈ p0 ++ (p1), x.block < W.heap.size := fun x hx => hW'.lt x (by simpa using hx)
  have k0 := h0
  have k1 := h1
  obtain ⟨a0, rfl⟩ := open_file (hval 0 60 v0 rfl rfl) h0
  obtain ⟨a1, rfl, o1⟩ := open_str (hval 1 9 v1 rfl rfl) h1
  clear hA0 hval0 hsz0
  refine (law_walk a0 a1 o1 W).mono fun e W' ⟨he, hb⟩ => ?_
  subst he
  refine ⟨_, rfl, _, _, _, [], p0 ++ (p1), [], hW', trodAll_mk1 (shut_bool Try.underlying4 _), ?_, rfl, hb.frame _, fun h => by cases h⟩
  have r0 := Below.trod Try.laidOut (by kernel_rfl) (of_decide_eq_true (by kernel_rfl)) k0 hb (fun x hx => hlt x (by simp [hx]))
  have r1 := Below.trod Try.laidOut (by kernel_rfl) (of_decide_eq_true (by kernel_rfl)) k1 hb (fun x hx => hlt x (by simp [hx]))
  exact trodAll_mk2 r0 r1

theorem manifestSwaps_holds : Rows.ManifestSwapsSaid :=
  OpenClaim.holds_of_wide 6 Try.f6 rfl rfl rfl rfl rfl rfl rfl ⟨rfl, rfl, rfl, rfl, rfl⟩ rfl rfl rfl rfl rfl (by kernel_rfl) Try.func6 (by kernel_rfl)
    (of_decide_eq_true (by kernel_rfl)) (by unfold Func.isWrapper; first | (rw [if_pos (by decide +kernel)]; kernel_rfl) | (rw [if_neg (by decide +kernel)]; exact ⟨rfl, rfl⟩))
    (fun os started H enc _ => manifestSwaps_lifted os started H enc)
#print axioms manifestSwaps_holds
end Go.Proofs.Yteglddggjkibcaa
