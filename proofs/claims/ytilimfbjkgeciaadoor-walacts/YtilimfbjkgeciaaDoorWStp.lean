/-
  The steps of a log: the closures of write and of Append, and inRow. Conditions: the disk and the log lie in memory; lengths as written.
-/
import Derived.Test.YtilimfbjkgeciaaDoorWPA
namespace Go.Proofs.YtilimfbjkgeciaaDoor
set_option maxRecDepth 100000
open Go.RowKit Go.Maps

/-- A log lies in memory. -/
abbrev Lg (w : World) (lb d : Nat) (x : List UInt8) (many : Nat) (off : Bool) : Prop := Bk w lb 67 #[ptr d, .string (B x), .int .i64 (many : Int), .bool off]
theorem post_drew {k : Dsk} {w w' : World} {r : Pd × Int} {e : Ending} (h : Post k w.drew r e w') : Post k w r e w' := by
  obtain ⟨e1, k', h1, h2, h3, h4⟩ := h
  exact ⟨e1, k', h1, h2, h3, (Kept.of_old (Old.re w).dr).tr h4⟩

set_option maxHeartbeats 2000000 in
theorem ap1_any (k : Dsk) (lb many : Nat) (x : List UInt8) (off : Bool) (hx : x.length ≤ 100000) (g1 g3 : Nat) (s : List UInt8) (hs : s.length ≤ 1000000000000) (w : World) (h : Dk w k) (hl : Lg w lb k.d x many off) (b1 : Bk w g1 30 #[ptr lb]) (b3 : Bk w g3 9 #[.string (B s)]) :
    Calls Tryd.prog 39 #[ptr g1, ptr g3] w (Post k w (pappend (ab k) x s)) := by
  have H := Lib.hid (append_u k x s hx hs w.drew h.drew)
  have hl0 := hl.at_ 0 rfl
  have hl1 := hl.at_ 1 rfl
  have d0 := b1.at_ 0 rfl
  have d1 := b3.at_ 0 rfl
  clear h hl b1 b3
  go_enter Tryd.func39, Tryd.ntmps39
  go_wp2
  go_still_tail 9, (by kernel_rfl)
  change wpList _ _ _ _ _ w.drew
  go_wp2_with fail
  refine H.out.mono ?_
  rintro e w1 hp
  obtain ⟨rfl, hp2⟩ := hp
  go_wp2
  go_ret
  exact post_drew ⟨rfl, hp2⟩

set_option maxHeartbeats 2000000 in
theorem ap2_any (k : Dsk) (lb many : Nat) (x : List UInt8) (off : Bool) (hx : x.length ≤ 100000) (g1 : Nat) (w : World) (h : Dk w k) (hl : Lg w lb k.d x many off) (b1 : Bk w g1 30 #[ptr lb]) :
    Calls Tryd.prog 41 #[ptr g1] w (Post k w (psync (ab k) x)) := by
  have H := Lib.hid (sync_u k x hx w.drew h.drew)
  have hl0 := hl.at_ 0 rfl
  have hl1 := hl.at_ 1 rfl
  have d0 := b1.at_ 0 rfl
  clear h hl b1
  go_enter Tryd.func41, Tryd.ntmps41
  go_wp2
  go_still_tail 8, (by kernel_rfl)
  change wpList _ _ _ _ _ w.drew
  go_wp2_with fail
  refine H.out.mono ?_
  rintro e w1 hp
  obtain ⟨rfl, hp2⟩ := hp
  go_wp2
  go_ret
  exact post_drew ⟨rfl, hp2⟩

set_option maxHeartbeats 2000000 in
theorem wr2_any (k : Dsk) (lb many : Nat) (x : List UInt8) (off : Bool) (g1 g2 : Nat) (y : List UInt8) (hy : y.length ≤ 100000) (w : World) (h : Dk w k) (hl : Lg w lb k.d x many off) (b1 : Bk w g1 30 #[ptr lb]) (b2 : Bk w g2 9 #[.string (B y)]) :
    Calls Tryd.prog 54 #[ptr g1, ptr g2] w (Post k w (pcreate (ab k) y)) := by
  have H := Lib.hid (create_u k y hy w.drew h.drew)
  have hl0 := hl.at_ 0 rfl
  have hl1 := hl.at_ 1 rfl
  have d0 := b1.at_ 0 rfl
  have d1 := b2.at_ 0 rfl
  clear h hl b1 b2
  go_enter Tryd.func54, Tryd.ntmps54
  go_wp2
  go_still_tail 5, (by kernel_rfl)
  change wpList _ _ _ _ _ w.drew
  go_wp2_with fail
  refine H.out.mono ?_
  rintro e w1 hp
  obtain ⟨rfl, hp2⟩ := hp
  go_wp2
  go_ret
  exact post_drew ⟨rfl, hp2⟩

set_option maxHeartbeats 2000000 in
theorem wr3_any (k : Dsk) (lb many : Nat) (x : List UInt8) (off : Bool) (g1 g2 g3 : Nat) (y s : List UInt8) (hy : y.length ≤ 100000) (hs : s.length ≤ 1000000000000) (w : World) (h : Dk w k) (hl : Lg w lb k.d x many off) (b1 : Bk w g1 30 #[ptr lb]) (b2 : Bk w g2 9 #[.string (B y)]) (b3 : Bk w g3 9 #[.string (B s)]) :
    Calls Tryd.prog 56 #[ptr g1, ptr g2, ptr g3] w (Post k w (pappend (ab k) y s)) := by
  have H := Lib.hid (append_u k y s hy hs w.drew h.drew)
  have hl0 := hl.at_ 0 rfl
  have hl1 := hl.at_ 1 rfl
  have d0 := b1.at_ 0 rfl
  have d1 := b2.at_ 0 rfl
  have d2 := b3.at_ 0 rfl
  clear h hl b1 b2 b3
  go_enter Tryd.func56, Tryd.ntmps56
  go_wp2
  go_still_tail 6, (by kernel_rfl)
  change wpList _ _ _ _ _ w.drew
  go_wp2_with fail
  refine H.out.mono ?_
  rintro e w1 hp
  obtain ⟨rfl, hp2⟩ := hp
  go_wp2
  go_ret
  exact post_drew ⟨rfl, hp2⟩

set_option maxHeartbeats 2000000 in
theorem wr4_any (k : Dsk) (lb many : Nat) (x : List UInt8) (off : Bool) (g1 g2 : Nat) (y : List UInt8) (hy : y.length ≤ 100000) (w : World) (h : Dk w k) (hl : Lg w lb k.d x many off) (b1 : Bk w g1 30 #[ptr lb]) (b2 : Bk w g2 9 #[.string (B y)]) :
    Calls Tryd.prog 57 #[ptr g1, ptr g2] w (Post k w (psync (ab k) y)) := by
  have H := Lib.hid (sync_u k y hy w.drew h.drew)
  have hl0 := hl.at_ 0 rfl
  have hl1 := hl.at_ 1 rfl
  have d0 := b1.at_ 0 rfl
  have d1 := b2.at_ 0 rfl
  clear h hl b1 b2
  go_enter Tryd.func57, Tryd.ntmps57
  go_wp2
  go_still_tail 5, (by kernel_rfl)
  change wpList _ _ _ _ _ w.drew
  go_wp2_with fail
  refine H.out.mono ?_
  rintro e w1 hp
  obtain ⟨rfl, hp2⟩ := hp
  go_wp2
  go_ret
  exact post_drew ⟨rfl, hp2⟩

set_option maxHeartbeats 2000000 in
theorem wr5_any (k : Dsk) (lb many : Nat) (x : List UInt8) (off : Bool) (hx : x.length ≤ 100000) (g1 g2 : Nat) (y : List UInt8) (hy : y.length ≤ 100000) (w : World) (h : Dk w k) (hl : Lg w lb k.d x many off) (b1 : Bk w g1 30 #[ptr lb]) (b2 : Bk w g2 9 #[.string (B y)]) :
    Calls Tryd.prog 58 #[ptr g1, ptr g2] w (Post k w (prename (ab k) y x)) := by
  have H := Lib.hid (rename_u k y x hy hx w.drew h.drew)
  have hl0 := hl.at_ 0 rfl
  have hl1 := hl.at_ 1 rfl
  have d0 := b1.at_ 0 rfl
  have d1 := b2.at_ 0 rfl
  clear h hl b1 b2
  go_enter Tryd.func58, Tryd.ntmps58
  go_wp2
  go_still_tail 9, (by kernel_rfl)
  change wpList _ _ _ _ _ w.drew
  go_wp2_with fail
  refine H.out.mono ?_
  rintro e w1 hp
  obtain ⟨rfl, hp2⟩ := hp
  go_wp2
  go_ret
  exact post_drew ⟨rfl, hp2⟩

set_option maxHeartbeats 2000000 in
theorem wr1_any (k : Dsk) (lb many : Nat) (x : List UInt8) (off : Bool) (g1 g2 : Nat) (y : List UInt8) (hy : y.length ≤ 100000) (w : World) (h : Dk w k) (hl : Lg w lb k.d x many off) (b1 : Bk w g1 30 #[ptr lb]) (b2 : Bk w g2 9 #[.string (B y)]) :
    Calls Tryd.prog 52 #[ptr g1, ptr g2] w (Post k w (pclear y (ab k))) := by
  have H := Lib.hid (delete_u k y hy w.drew h.drew)
  have hl0 := hl.at_ 0 rfl
  have d0 := b1.at_ 0 rfl
  have d1 := b2.at_ 0 rfl
  have HC := Lib.hid (show pclear y (ab k) = if (pdelete (ab k) y).2 = 3 then ((pdelete (ab k) y).1, 0) else pdelete (ab k) y from rfl)
  generalize pclear y (ab k) = r at *
  generalize pdelete (ab k) y = q at *
  clear h hl b1 b2
  by_cases h3 : q.2 = 3
  · have hb : (q.2 != 3) = false := by rw [h3]; decide
    have HX := Lib.hid (show r = (q.1, 0) by rw [HC.out, if_pos h3])
    clear HC h3
    go_enter Tryd.func52, Tryd.ntmps52
    go_wp2
    go_still_tail 5, (by kernel_rfl)
    change wpList _ _ _ _ _ w.drew
    go_wp2_with fail
    refine H.out.mono ?_
    rintro e w1 hp
    obtain ⟨rfl, hp2⟩ := hp
    go_wp2
    go_ret
    rw [HX.out]
    exact post_drew ⟨rfl, hp2⟩
  · have hb : (q.2 != 3) = true := by simpa using h3
    have HX := Lib.hid (show r = q by rw [HC.out, if_neg h3])
    clear HC h3
    go_enter Tryd.func52, Tryd.ntmps52
    go_wp2
    go_still_tail 5, (by kernel_rfl)
    change wpList _ _ _ _ _ w.drew
    go_wp2_with fail
    refine H.out.mono ?_
    rintro e w1 hp
    obtain ⟨rfl, hp2⟩ := hp
    go_wp2
    go_ret
    rw [HX.out]
    exact post_drew ⟨rfl, hp2⟩

/-- A closure as a value. -/
abbrev fv (f : Nat × Array Value) : Value := .func (.func f.1) #[] f.2
theorem prow_cons (f : Pd → Pd × Int) (fs : List (Pd → Pd × Int)) (p : Pd) : prow (f :: fs) p = if (f p).2 = 0 then prow fs (f p).1 else f p := rfl
theorem fv_at {fs : List (Nat × Array Value)} {j : Nat} {f : Nat × Array Value} (h : fs[j]? = some f) : (fs.map fv).toArray[j]? = some (fv f) := by simp [h]
set_option maxHeartbeats 2000000 in
theorem row_any (ops : List (Pd → Pd × Int)) (fs : List (Nat × Array Value)) (hlen : ops.length = fs.length) (hl100 : fs.length ≤ 100) (k : Dsk) (w : World) (h : Dk w k) (sb : Nat) (hb : Bk w sb 76 (fs.map fv).toArray)
    (he : ∀ f ∈ fs, ∀ args w, (callFunc f.1 args).run Tryd.prog w = .ok (.enter f.1 args) w)
    (step : ∀ (j : Nat) (o : Pd → Pd × Int) (f : Nat × Array Value), ops[j]? = some o → fs[j]? = some f → ∀ (k' : Dsk) (w' : World), k'.d = k.d → Dk w' k' → Kept k k' w w' → Calls Tryd.prog f.1 f.2 w' (Post k' w' (o (ab k')))) :
    Calls Tryd.prog 38 #[.slice (some ⟨sb, 0, none⟩) fs.length fs.length] w (Post k w (prow ops (ab k))) := by
  obtain ⟨R, hR⟩ : ∃ R, R = prow ops (ab k) := ⟨_, rfl⟩
  rw [← hR]
  have HR := Lib.hid hR
  clear hR
  have hno := h.other hb (by decide) (by decide) (by decide) (by decide)
  have HB := Lib.hid hb
  have HN := Lib.hid hno
  have HE := Lib.hid he
  have HST := Lib.hid step
  have HD := Lib.hid h
  have HL := Lib.hid hlen
  clear hb hno he step h hlen
  go_enter Tryd.func38, Tryd.ntmps38
  go_wp2_with fail
  go_loopw [8] (fun i wr => ∃ (j : Nat) (k' : Dsk), j ≤ fs.length ∧ i = .int .i64 j ∧ Hid (k'.d = k.d ∧ Dk wr k' ∧ Kept k k' w wr ∧ R = prow (ops.drop j) (ab k'))) (fun i _ => fs.length - (intOf i).toNat)
  case atStart => exact ⟨0, k, Nat.zero_le _, rfl, Lib.hid ⟨rfl, HD.out, Kept.re _ _, HR.out⟩⟩
  case round =>
    obtain ⟨j, k', hj, rfl, HI⟩ := hrel
    by_cases hlt : j < fs.length
    · obtain ⟨i1, i2, i3, i4⟩ := HI.out
      have hlo : j < ops.length := by rw [HL.out]; exact hlt
      have hf : fs[j]? = some fs[j] := List.getElem?_eq_getElem hlt
      have ho : ops[j]? = some ops[j] := List.getElem?_eq_getElem hlo
      have hc : wr.cell? ⟨sb, j, none⟩ = some (fv fs[j]) := (i3.bk HB.out HN.out).at_ j (fv_at hf)
      have hen := HE.out fs[j] (List.getElem_mem hlt)
      have HS := Lib.hid (HST.out j _ _ ho hf k' wr i1 i2 i3)
      have HQ := Lib.hid (show R = if (ops[j] (ab k')).2 = 0 then prow (ops.drop (j + 1)) (ops[j] (ab k')).1 else ops[j] (ab k') by rw [i4, List.drop_eq_getElem_cons hlo, prow_cons])
      have HK := Lib.hid i3
      have HKD := Lib.hid i1
      clear HI i1 i2 i3 i4 hf ho
      generalize ops[j] (ab k') = r at *
      generalize fs[j] = f at *
      obtain ⟨g, caps⟩ := f
      simp only [fv] at hc hen
      by_cases hz : r.2 = 0
      · have hzb : (r.2 != 0) = false := by rw [hz]; decide
        have HX := Lib.hid (show R = prow (ops.drop (j + 1)) r.1 by rw [HQ.out, if_pos hz])
        clear HQ hz
        go_wp2_with fail
        refine (show Calls Tryd.prog g _ _ _ from HS.out).mono ?_
        rintro e w1 hp
        obtain ⟨rfl, k2, q1, q2, q3, q4⟩ := hp
        have HI2 := Lib.hid (show k2.d = k.d ∧ Dk w1 k2 ∧ Kept k k2 w w1 ∧ R = prow (ops.drop (j + 1)) (ab k2) from ⟨q2.trans HKD.out, q3, HK.out.tr q4, by rw [q1]; exact HX.out⟩)
        clear q1 q2 q3 q4
        go_wp2
        go_roundw
        case rel => exact ⟨j + 1, k2, by omega, by go_num, HI2⟩
        case measure => simp [intOf]; omega
      · have hzb : (r.2 != 0) = true := by simpa using hz
        have HX := Lib.hid (show R = r by rw [HQ.out, if_neg hz])
        clear HQ hz
        go_wp2_with fail
        refine (show Calls Tryd.prog g _ _ _ from HS.out).mono ?_
        rintro e w1 hp
        obtain ⟨rfl, k2, q1, q2, q3, q4⟩ := hp
        have HP := Lib.hid (show Post k w R (.returned (.int .i64 r.2)) w1 from ⟨by rw [HX.out], k2, by rw [HX.out]; exact q1, q2.trans HKD.out, q3, HK.out.tr q4⟩)
        clear q1 q2 q3 q4
        go_wp2
        go_ret
        exact HP.out
    · obtain ⟨i1, i2, i3, i4⟩ := HI.out
      have hdr : ops.drop j = [] := by rw [List.drop_eq_nil_iff, HL.out]; omega
      rw [hdr] at i4
      have HP := Lib.hid (show Post k w R (.returned (.int .i64 0)) wr from ⟨by rw [i4]; rfl, k', by rw [i4]; rfl, i1, i2, i3⟩)
      clear HI i1 i2 i3 i4 hdr
      go_wp2
      go_ret
      exact HP.out
end Go.Proofs.YtilimfbjkgeciaaDoor
