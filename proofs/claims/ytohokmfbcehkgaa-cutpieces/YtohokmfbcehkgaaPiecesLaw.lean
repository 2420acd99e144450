/-
  CutPieces: whatever list of cells, borders and number come in, the law answers true, and leaves all as it was. No conditions.
-/
import Derived.Test.YtohokmfbcehkgaaCLft
import Derived.Test.YtohokmfbcehkgaaCMt4
namespace Go.Proofs.Ytohokmfbcehkgaa
open Go.ChangeShapes Go.WideShapes Go.ChangeAt Go.RowKit Go.Joins Go.Deep

theorem mod_of (a q c : Nat) (qi ci : Int) (h1 : qi = (q : Int)) (h2 : ci = (c : Int)) (hq : 0 < q) : ∃ r k : Nat, (a : Int) % qi = (r : Int) ∧ ci + (r : Int) = (k : Int) ∧ c ≤ k ∧ k < c + q := by
  subst h1 h2
  exact ⟨a % q, c + a % q, by omega, by omega, by omega, by have := Nat.mod_lt a hq; omega⟩
theorem flat_le {l : List Cel} {PL : List (Nat × List Cel)} (h : (PL.map (·.2)).flatten = l) (k : Nat) : ((PL.take k).map (·.2)).flatten.length ≤ l.length := by
  rw [← h, ← List.take_append_drop k PL, List.map_append, List.flatten_append, List.length_append]
  simp
theorem flat_next {PL : List (Nat × List Cel)} {k t : Nat} {c : List Cel} (h : PL[k]? = some (t, c)) : ((PL.take (k + 1)).map (·.2)).flatten = ((PL.take k).map (·.2)).flatten ++ c := by
  rw [← take_at h]
  simp

set_option maxRecDepth 100000 in
set_option maxHeartbeats 16000000 in
theorem law_pieces (v : Value) (l : List Cel) (A2 : Option Addr) (cap2 : Nat) (bs : List (List UInt8)) (a : Nat) (w : World) (h : Cels w v l) (hml : l.length ≤ maxLen) (hS : Strs w A2 cap2 bs) (hcap : cap2 ≤ maxLen) (ha : a < 256) :
    Calls Try.prog 6 #[v, .slice A2 bs.length cap2, .int .u8 (a : Int)] w fun e w' => e = .returned (.bool true) ∧ Old w w' := by
  have CB := Lib.hid (bounded_any w v l h hml A2 cap2 bs hS hcap)
  obtain ⟨A0, cap0, rfl, hc0⟩ := h.form
  have HI := Lib.hid h
  have HS := Lib.hid hS
  clear h hS hml hcap
  go_enter Try.func6, Try.ntmps6
  go_wp2_with fail
  refine CB.out.mono ?_
  rintro e w1' ⟨rfl, hw1⟩
  have hw1' := hw1.symm
  subst hw1'
  clear hw1 CB
  cases hbd : boundedB l bs with
  | false =>
    go_wp2_with fail
    refine (shown_any _).mono ?_
    rintro e w2 ⟨rfl, o2⟩
    go_wp2
    go_ret
    exact ⟨rfl, o2⟩
  | true =>
    obtain ⟨hl2, hbs⟩ := bounded_len hbd
    clear hbd
    go_wp2_with fail
    refine (shown_any _).mono ?_
    rintro e w2 ⟨rfl, o2⟩
    obtain ⟨ra, m, ea1, ea2, ea3, ea4⟩ := mod_of a 20 1 20 1 rfl rfl (by omega)
    have C1 := all_any w2 _ l (HI.out.old o2) (by omega) A2 cap2 bs (HS.out.old o2) (by omega) (m : Int) (by omega)
    go_wp2_with fail
    refine C1.mono ?_
    clear C1
    rintro e w3 ⟨u1, ps1, rfl, h1, o3⟩
    have o3' := o2.tr o3
    obtain ⟨B1, k1, rfl, -⟩ := h1.form
    cases hb : bords bs with
    | false =>
      have C2 := borders_any w3 A2 cap2 bs (HS.out.old o3') (by omega)
      rw [hb] at C2
      rw [allE_bad.1 hb]
      clear h1 hb
      go_wp2_with fail
      refine C2.mono ?_
      clear C2
      rintro e w4 ⟨rfl, o4⟩
      have o4' := o3'.tr o4
      go_wp2
      go_ret
      exact ⟨rfl, o4'⟩
    | true =>
      cases hr : rising l with
      | false =>
        have C2 := borders_any w3 A2 cap2 bs (HS.out.old o3') (by omega)
        rw [hb] at C2
        rw [allE_bad.2 hb hr]
        clear h1 hb
        go_wp2_with fail
        refine C2.mono ?_
        clear C2
        rintro e w4 ⟨rfl, o4⟩
        have o4' := o3'.tr o4
        have C3 := rrising_at _ l w4 (by omega) (HI.out.old o4')
        rw [hr] at C3
        clear hr
        go_wp2_with fail
        refine C3.mono ?_
        clear C3
        rintro e w5 ⟨rfl, o5⟩
        have o5' := o4'.tr o5
        go_wp2
        go_ret
        exact ⟨rfl, o5'⟩
      | true =>
        obtain ⟨e1, hG⟩ := allV_good hb hr (m := (m : Int)) (by omega)
        have HG := Lib.hid hG
        have H1 := Lib.hid h1
        rw [e1]
        have hOA := OwnC.empty (new_bk w3 50 #[]) (Nat.le_refl _)
        have HA := Lib.hid (show OwnC (w3.alloc (.cells #[] 50)) w3.heap.size (.slice (some ⟨w3.heap.size, 0, none⟩) 0 0) (((allV l bs (m : Int)).take 0).map (fun q : Nat × List Cel => q.2)).flatten from hOA)
        have HN := Lib.hid (old_alloc w3 (.cells #[] 50))
        have hPl := (show (allV l bs (m : Int)).length ≤ 1000000 by
          have he : splitE l bs = 0 := by unfold splitE; rw [hb, hr]; rfl
          unfold allV
          rw [e1, if_neg (by simp)]
          have := upP_len (splitL bs l) (m : Int) (bs.length + 1) (fun L hL => by
            unfold splitL at hL
            obtain ⟨i, -, rfl⟩ := List.mem_map.1 hL
            have := List.length_filter_le (fun c : Cel => place bs c.row == i) l
            omega)
          omega)
        generalize allV l bs (m : Int) = PL at *
        clear h1 hG e1 hb hr hOA
        go_wp2_with fail
        generalize w3.alloc (.cells #[] 50) = w4 at *
        go_loopw [10, 11] (fun av iv wr => ∃ k : Nat, iv = .int .i64 (k : Int) ∧ k ≤ PL.length ∧ Hid (Old w3 wr) ∧ Hid (OwnC wr w3.heap.size av ((PL.take k).map (fun q : Nat × List Cel => q.2)).flatten)) (fun _ iv _ => PL.length - (intOf iv).toNat)
        case atStart => exact ⟨0, rfl, Nat.zero_le _, HN, HA⟩
        case round =>
          obtain ⟨k, rfl, hk, HO, HA2⟩ := hrel
          obtain ⟨Aa, ca, rfl, -⟩ := HA2.out.cels.form
          clear HA HN
          by_cases hlt : k < PL.length
          · obtain ⟨t, c, HX⟩ : ∃ t c, Hid (PL[k]? = some (t, c)) := ⟨PL[k].1, PL[k].2, Lib.hid (List.getElem?_eq_getElem hlt)⟩
            obtain ⟨g1, v1, rfl, hv1, x1, y1⟩ := (H1.out.old HO.out).at_ HX.out
            have hcn : c ≠ [] := HG.out.ne _ (List.mem_of_getElem? HX.out)
            have hnx := flat_next HX.out
            have hfl := flat_le HG.out.flat (k + 1)
            rw [hnx, List.length_append] at hfl
            have HNX := Lib.hid hnx
            obtain ⟨Ac, cc, rfl, -⟩ := hv1.cels.form
            have i1 : (k : Int) < (PL.length : Int) := by omega
            have i2 : (0 : Int) ≤ (k : Int) := by omega
            have HV := Lib.hid hv1
            obtain ⟨y, HY⟩ : ∃ y, Hid (c[0]? = some y) := by
              cases c with
              | nil => exact absurd rfl hcn
              | cons y _ => exact ⟨y, Lib.hid rfl⟩
            obtain ⟨gc, oc, rfl, hy6⟩ := hv1.cels.at_ HY.out
            have z0 := hy6.a0
            rw [Nat.zero_mul, Nat.add_zero] at z0
            have hcl0 : 0 < c.length := (List.getElem?_eq_some_iff.1 HY.out).1
            have j0 : (0 : Int) < (c.length : Int) := by omega
            have d1 : ((c.length : Int) == 0) = false := by rw [beq_eq_false_iff_ne]; omega
            clear hv1 hy6
            by_cases hk0 : k = 0
            · subst hk0
              rw [Nat.zero_mul] at x1 y1
              rw [Nat.zero_add] at y1
              have d2 : decide ((0 : Int) < ((0 : Nat) : Int)) = false := by decide
              go_wp2_with fail
              go_quiet (fail)
              have HAL := Lib.hid (show OwnC wr w3.heap.size (.slice Aa 0 ca) [] from HA2.out)
              have hlen3 : ([] : List Cel).length + c.length ≤ 80 := by
                have := hfl
                simp at this ⊢
                omega
              rename World => wo
              go_wp2_with fail
              go_loopw [13] (fun jv wi => ∃ j : Nat, jv = .int .i64 (j : Int) ∧ j ≤ c.length ∧ Hid (Old wo wi)) (fun jv _ => c.length - (intOf jv).toNat)
              case atStart => exact ⟨0, rfl, Nat.zero_le _, Lib.hid (by first | exact Old.re _ | exact (Old.re _).dr | exact (Old.re _).dn _)⟩
              case round =>
                obtain ⟨j, rfl, hj, HI2⟩ := hrel
                by_cases hjl : j < c.length
                · obtain ⟨z, HZ⟩ : ∃ z, Hid (c[j]? = some z) := ⟨c[j], Lib.hid (List.getElem?_eq_getElem hjl)⟩
                  obtain ⟨gz, oz, ez, hz6⟩ := (HV.out.cels.old HI2.out).at_ HZ.out
                  simp only [Option.some.injEq, Addr.mk.injEq, and_true] at ez
                  obtain ⟨rfl, rfl⟩ := ez
                  have hpl : place bs z.row = t := HG.out.at_ _ (List.mem_of_getElem? HX.out) z (List.mem_of_getElem? HZ.out)
                  have CP := Lib.hid (fun (W : World) (o : Old wr W) => by
                    have C := place_any W A2 cap2 bs z.row (by omega) (HS.out.old (o3'.tr (HO.out.tr (HI2.out.tr o))))
                    rw [hpl] at C
                    exact C)
                  have hx1 := cell_old x1 HI2.out
                  have q1 : (j : Int) < (c.length : Int) := by omega
                  have q2 : (0 : Int) ≤ (j : Int) := by omega
                  have hS : Old wr wr ∧ wr.cell? ⟨gc, oc + j * 6, none⟩ = some (.string (B z.row)) ∧ wr.cell? ⟨g1, 0, none⟩ = some (.int .i64 (t : Int)) := ⟨Old.re _, hz6.a0, hx1⟩
                  clear hz6 hx1 hpl
                  go_wp2_with fail
                  go_region_held3 (fun W => Old wr W ∧ W.cell? ⟨gc, oc + j * 6, none⟩ = some (.string (B z.row)) ∧ W.cell? ⟨g1, 0, none⟩ = some (.int .i64 (t : Int))) (first | exact ⟨hS.1.dr, hS.2⟩ | exact two_old (by assumption) (by assumption))
                    (first
                      | (go_at_call 16; with_reducible refine (CP.out _ (And.left (by assumption))).mono ?_; rintro r w1 ⟨rfl, h1b⟩))
                  have f9 : Old wr w1 := And.left (by assumption)
                  have HI3 := Lib.hid (HI2.out.tr f9)
                  clear hS CP HI2
                  go_wp2
                  go_roundw
                  case rel => exact ⟨j + 1, by go_num, by omega, HI3⟩
                  case measure => simp [intOf]; omega
                · obtain rfl : j = c.length := by omega
                  obtain ⟨p, hp⟩ : ∃ p, c.length = p + 1 := ⟨c.length - 1, by omega⟩
                  obtain ⟨y2, HY2⟩ : ∃ y2, Hid (c[p]? = some y2) := ⟨c[p], Lib.hid (List.getElem?_eq_getElem (by omega))⟩
                  obtain ⟨gz, oz, ez, hz6⟩ := (HV.out.cels.old HI2.out).at_ HY2.out
                  simp only [Option.some.injEq, Addr.mk.injEq, and_true] at ez
                  obtain ⟨rfl, rfl⟩ := ez
                  have z2 := cell_old z0 HI2.out
                  have z3 := hz6.a0
                  have hw5 : IntKind.i64.wrap ((c.length : Int) - 1) = (p : Int) := by rw [IntKind.wrap_i64]; omega
                  have q3 : (0 : Int) ≤ (p : Int) := by omega
                  have q4 : (p : Int) < (c.length : Int) := by omega
                  clear hp
                  by_cases hm : m < c.length
                  · have hro : y2.row = y.row := HG.out.one _ (List.mem_of_getElem? HX.out) (by exact_mod_cast hm) _ (List.mem_of_getElem? HY2.out) _ (List.mem_of_getElem? HY.out)
                    rw [hro] at z3
                    have d6 : decide ((m : Int) < (c.length : Int)) = true := by simp <;> omega
                    have d7 : decide (m < c.length) = true := by simp <;> omega
                    clear hz6 hro
                    go_wp2_with fail
                    go_quiet (fail)
                    go_wp2_with (at_builtin; refine wp_cels rfl (.tmp 136) (.tmp 137) rfl (W0 := w3) ((HO.out.tr HI2.out).dn _) _ [] c rfl (HAL.out.old (HI2.out.dn _)) _ rfl (HV.out.cels.old (HI2.out.dn _)) (by omega) ?_; intro v8 w8 n8 o8 g8 f8; refine Hid.out ?_)
                    refine Lib.hid ?_
                    have HR1 := Lib.hid o8
                    have HR2 := Lib.hid n8
                    clear n8 o8 g8 f8
                    go_wp2
                    go_roundw
                    case rel => exact ⟨0 + 1, by go_num, by omega, HR1, Lib.hid (by rw [HNX.out]; exact HR2.out)⟩
                    case measure => simp [intOf]; omega
                  · have d6 : decide ((m : Int) < (c.length : Int)) = false := by simp <;> omega
                    have d7 : decide (m < c.length) = false := by simp <;> omega
                    clear hz6
                    go_wp2_with fail
                    go_quiet (fail)
                    go_wp2_with (at_builtin; refine wp_cels rfl (.tmp 136) (.tmp 137) rfl (W0 := w3) ((HO.out.tr HI2.out).dn _) _ [] c rfl (HAL.out.old (HI2.out.dn _)) _ rfl (HV.out.cels.old (HI2.out.dn _)) (by omega) ?_; intro v8 w8 n8 o8 g8 f8; refine Hid.out ?_)
                    refine Lib.hid ?_
                    have HR1 := Lib.hid o8
                    have HR2 := Lib.hid n8
                    clear n8 o8 g8 f8
                    go_wp2
                    go_roundw
                    case rel => exact ⟨0 + 1, by go_num, by omega, HR1, Lib.hid (by rw [HNX.out]; exact HR2.out)⟩
                    case measure => simp [intOf]; omega
            · obtain ⟨q, rfl⟩ : ∃ q, k = q + 1 := ⟨k - 1, by omega⟩
              obtain ⟨s, d, HQ⟩ : ∃ s d, Hid (PL[q]? = some (s, d)) := ⟨PL[q].1, PL[q].2, Lib.hid (List.getElem?_eq_getElem (by omega))⟩
              obtain ⟨g2, v2, e2, -, x2, -⟩ := (H1.out.old HO.out).at_ HQ.out
              simp only [Option.some.injEq, Addr.mk.injEq, and_true] at e2
              subst e2
              have hst := HG.out.up HX.out HQ.out
              have hdn : d ≠ [] := HG.out.ne _ (List.mem_of_getElem? HQ.out)
              have hA2 := HA2.out.cels
              have hrw := HG.out.ahead HX.out
              have hne : 0 < ((PL.take (q + 1)).map (fun q : Nat × List Cel => q.2)).flatten.length := by
                rw [flat_next HQ.out, List.length_append]
                have : 0 < d.length := List.length_pos_iff.2 hdn
                omega
              generalize ((PL.take (q + 1)).map (fun q : Nat × List Cel => q.2)).flatten = AL at *
              obtain ⟨r, hr⟩ : ∃ r, AL.length = r + 1 := ⟨AL.length - 1, by omega⟩
              obtain ⟨x, HXA⟩ : ∃ x, Hid (AL[r]? = some x) := ⟨AL[r], Lib.hid (List.getElem?_eq_getElem (by omega))⟩
              obtain ⟨ga, oa, rfl, hx6⟩ := hA2.at_ HXA.out
              have z1 := hx6.a0
              have hrow : (x.row == y.row) = false := by
                rw [beq_eq_false_iff_ne]
                exact hrw x (List.mem_of_getElem? HXA.out) y (List.mem_of_getElem? HY.out)
              have d2 : decide ((0 : Int) < (q : Int) + 1) = true := by simp <;> omega
              have d2' : decide ((0 : Int) < ((q + 1 : Nat) : Int)) = true := by simp <;> omega
              have d3 : decide ((t : Int) < (s : Int)) = false := by simp <;> omega
              have hw1 : IntKind.i64.wrap ((q : Int) + 1 - 1) = (q : Int) := by rw [IntKind.wrap_i64]; omega
              have hw1' : IntKind.i64.wrap (((q + 1 : Nat) : Int) - 1) = (q : Int) := by rw [IntKind.wrap_i64]; omega
              have hw2' : IntKind.i64.wrap (((r + 1 : Nat) : Int) - 1) = (r : Int) := by rw [IntKind.wrap_i64]; omega
              have i6' : (r : Int) < ((r + 1 : Nat) : Int) := by omega
              have hw3 : IntKind.i64.wrap (q : Int) = (q : Int) := by rw [IntKind.wrap_i64]; omega
              have hw4 : IntKind.i64.wrap (r : Int) = (r : Int) := by rw [IntKind.wrap_i64]; omega
              have i7 : (0 : Int) ≤ (q : Int) + 1 := by omega
              have i8 : (q : Int) + 1 < (PL.length : Int) := by omega
              have d3' : decide (t < s) = false := by simp <;> omega
              have hw2 : IntKind.i64.wrap ((r : Int) + 1 - 1) = (r : Int) := by rw [IntKind.wrap_i64]; omega
              have i3 : (0 : Int) ≤ (q : Int) := by omega
              have i4 : (q : Int) < (PL.length : Int) := by omega
              have i5 : (0 : Int) ≤ (r : Int) := by omega
              have i6 : (r : Int) < (r : Int) + 1 := by omega
              have HAR := Lib.hid hr
              rw [hr]
              clear hA2 hrw hne hx6 hst hdn hr
              go_wp2_with fail
              go_quiet (fail)
              have HAL := Lib.hid (show OwnC wr w3.heap.size (.slice (some ⟨ga, oa, none⟩) (r + 1) ca) AL from by rw [← HAR.out]; exact HA2.out)
              clear HAR HQ x2 d2 d2' d3 d3' hw1 hw1' hw2 hw2' hw3 hw4 i3 i4 i5 i6 i6' i7 i8 HXA z1 hrow
              generalize r + 1 = R at *
              generalize hK : q + 1 = K at *
              have HK := Lib.hid hK
              clear hK
              have hlen3 : AL.length + c.length ≤ 80 := by omega
              rename World => wo
              go_wp2_with fail
              go_loopw [13] (fun jv wi => ∃ j : Nat, jv = .int .i64 (j : Int) ∧ j ≤ c.length ∧ Hid (Old wo wi)) (fun jv _ => c.length - (intOf jv).toNat)
              case atStart => exact ⟨0, rfl, Nat.zero_le _, Lib.hid (by first | exact Old.re _ | exact (Old.re _).dr | exact (Old.re _).dn _)⟩
              case round =>
                obtain ⟨j, rfl, hj, HI2⟩ := hrel
                by_cases hjl : j < c.length
                · obtain ⟨z, HZ⟩ : ∃ z, Hid (c[j]? = some z) := ⟨c[j], Lib.hid (List.getElem?_eq_getElem hjl)⟩
                  obtain ⟨gz, oz, ez, hz6⟩ := (HV.out.cels.old HI2.out).at_ HZ.out
                  simp only [Option.some.injEq, Addr.mk.injEq, and_true] at ez
                  obtain ⟨rfl, rfl⟩ := ez
                  have hpl : place bs z.row = t := HG.out.at_ _ (List.mem_of_getElem? HX.out) z (List.mem_of_getElem? HZ.out)
                  have CP := Lib.hid (fun (W : World) (o : Old wr W) => by
                    have C := place_any W A2 cap2 bs z.row (by omega) (HS.out.old (o3'.tr (HO.out.tr (HI2.out.tr o))))
                    rw [hpl] at C
                    exact C)
                  have hx1 := cell_old x1 HI2.out
                  have q1 : (j : Int) < (c.length : Int) := by omega
                  have q2 : (0 : Int) ≤ (j : Int) := by omega
                  have hS : Old wr wr ∧ wr.cell? ⟨gc, oc + j * 6, none⟩ = some (.string (B z.row)) ∧ wr.cell? ⟨g1, K * 2, none⟩ = some (.int .i64 (t : Int)) := ⟨Old.re _, hz6.a0, hx1⟩
                  clear hz6 hx1 hpl
                  go_wp2_with fail
                  go_region_held3 (fun W => Old wr W ∧ W.cell? ⟨gc, oc + j * 6, none⟩ = some (.string (B z.row)) ∧ W.cell? ⟨g1, K * 2, none⟩ = some (.int .i64 (t : Int))) (first | exact ⟨hS.1.dr, hS.2⟩ | exact two_old (by assumption) (by assumption))
                    (first
                      | (go_at_call 16; with_reducible refine (CP.out _ (And.left (by assumption))).mono ?_; rintro r w1 ⟨rfl, h1b⟩))
                  have f9 : Old wr w1 := And.left (by assumption)
                  have HI3 := Lib.hid (HI2.out.tr f9)
                  clear hS CP HI2
                  go_wp2
                  go_roundw
                  case rel => exact ⟨j + 1, by go_num, by omega, HI3⟩
                  case measure => simp [intOf]; omega
                · obtain rfl : j = c.length := by omega
                  obtain ⟨p, hp⟩ : ∃ p, c.length = p + 1 := ⟨c.length - 1, by omega⟩
                  obtain ⟨y2, HY2⟩ : ∃ y2, Hid (c[p]? = some y2) := ⟨c[p], Lib.hid (List.getElem?_eq_getElem (by omega))⟩
                  obtain ⟨gz, oz, ez, hz6⟩ := (HV.out.cels.old HI2.out).at_ HY2.out
                  simp only [Option.some.injEq, Addr.mk.injEq, and_true] at ez
                  obtain ⟨rfl, rfl⟩ := ez
                  have z2 := cell_old z0 HI2.out
                  have z3 := hz6.a0
                  have hw5 : IntKind.i64.wrap ((c.length : Int) - 1) = (p : Int) := by rw [IntKind.wrap_i64]; omega
                  have q3 : (0 : Int) ≤ (p : Int) := by omega
                  have q4 : (p : Int) < (c.length : Int) := by omega
                  clear hp
                  by_cases hm : m < c.length
                  · have hro : y2.row = y.row := HG.out.one _ (List.mem_of_getElem? HX.out) (by exact_mod_cast hm) _ (List.mem_of_getElem? HY2.out) _ (List.mem_of_getElem? HY.out)
                    rw [hro] at z3
                    have d6 : decide ((m : Int) < (c.length : Int)) = true := by simp <;> omega
                    have d7 : decide (m < c.length) = true := by simp <;> omega
                    clear hz6 hro
                    go_wp2_with fail
                    go_quiet (fail)
                    go_wp2_with (at_builtin; refine wp_cels rfl (.tmp 136) (.tmp 137) rfl (W0 := w3) ((HO.out.tr HI2.out).dn _) _ AL c rfl (HAL.out.old (HI2.out.dn _)) _ rfl (HV.out.cels.old (HI2.out.dn _)) (by omega) ?_; intro v8 w8 n8 o8 g8 f8; refine Hid.out ?_)
                    refine Lib.hid ?_
                    have HR1 := Lib.hid o8
                    have HR2 := Lib.hid n8
                    clear n8 o8 g8 f8
                    go_wp2
                    go_roundw
                    case rel => exact ⟨K + 1, by go_num, by omega, HR1, Lib.hid (by rw [HNX.out]; exact HR2.out)⟩
                    case measure => have := HK.out; simp [intOf]; omega
                  · have d6 : decide ((m : Int) < (c.length : Int)) = false := by simp <;> omega
                    have d7 : decide (m < c.length) = false := by simp <;> omega
                    clear hz6
                    go_wp2_with fail
                    go_quiet (fail)
                    go_wp2_with (at_builtin; refine wp_cels rfl (.tmp 136) (.tmp 137) rfl (W0 := w3) ((HO.out.tr HI2.out).dn _) _ AL c rfl (HAL.out.old (HI2.out.dn _)) _ rfl (HV.out.cels.old (HI2.out.dn _)) (by omega) ?_; intro v8 w8 n8 o8 g8 f8; refine Hid.out ?_)
                    refine Lib.hid ?_
                    have HR1 := Lib.hid o8
                    have HR2 := Lib.hid n8
                    clear n8 o8 g8 f8
                    go_wp2
                    go_roundw
                    case rel => exact ⟨K + 1, by go_num, by omega, HR1, Lib.hid (by rw [HNX.out]; exact HR2.out)⟩
                    case measure => have := HK.out; simp [intOf]; omega
          · obtain rfl : k = PL.length := by omega
            have hA3 := HA2.out
            rw [List.take_length, HG.out.flat] at hA3
            have o5 := o3'.tr HO.out
            have C9 := sameC_any wr _ _ l hA3.cels (HI.out.old o5) (by omega)
            have hfe : ((PL.take PL.length).map (fun q : Nat × List Cel => q.2)).flatten.length = l.length := by rw [List.take_length, HG.out.flat]
            rw [hfe]
            clear hA3
            go_wp2_with fail
            refine C9.mono ?_
            clear C9
            rintro e w9 ⟨rfl, o9⟩
            have o10 := o5.tr o9
            go_wp2
            go_ret
            exact ⟨rfl, o10⟩

set_option maxRecDepth 100000 in
theorem cutPieces_lifted (os : Os) (started : os.Started) (H : Type) (enc : TypeId × Value → H) :
    ReturnsInHanded {} Try.checked os 6 .any (Rows.cutPiecesSpec.pre6 enc Try.prog Try.f6 Rows.cutPiecesRow.domain false) (Rows.cutPiecesSpec.post enc Try.prog Try.f6 false true false false) := by
  refine returnsInHanded_of_change_sized (C := Try.checked) Try.own started (by kernel_rfl) Try.func6
    (ChangeSpec.witness6 (enc := enc) (C := Try.checked) false ⟨#[], #[.slice none 0 0, .slice none 0 0, .int .u8 0], []⟩ 8 (by kernel_rfl) (by kernel_rfl) (by kernel_rfl) (by kernel_rfl)) ?_
  intro W base args ds gs before hval0 hW hcnd hsz0 _
  have hval : ∀ (j : Nat) t v, Try.f6.params[j]? = some t → args[j]? = some v → Value.okWide Try.prog W .any base t v := hval0
  have hW' := hW
  obtain ⟨p, q, hA0, hV, rfl, hfz, hnd⟩ := hW
  have hA : DataW.TrodAll enc Try.prog W 0 (fun _ => true) true Try.f6.params.toList args.toList ds p := hA0
  have hsz : (DataW.weightsEach Try.prog (Try.f6.params.toList ++ Rows.cutPiecesSpec.plain.varTypes Try.prog) (ds ++ gs)).all (· ≤ reachBytes) = true := hsz0
  rw [Try.params6] at hA hval hsz
  obtain ⟨v0, v1, v2, d0, d1, d2, p0, p1, p2, rfl, rfl, rfl, h0, h1, h2⟩ := trodAll_three hA
  obtain ⟨rfl, rfl⟩ := trodVars_none hV
  have hlt : ∀ x ∈ p0 ++ (p1 ++ (p2)), x.block < W.heap.size := fun x hx => hW'.lt x (by simpa using hx)
  have k0 := h0
  have k1 := h1
  have k2 := h2
  obtain ⟨a0, o0, m0, -⟩ := open_cels (hval 0 22 v0 rfl rfl) h0
  obtain ⟨a1, A1, c1, rfl, o1, m1⟩ := open_strs (hval 1 23 v1 rfl rfl) h1 (fun x hx => hlt x (by simp [hx]))
  obtain ⟨a2, rfl, o2⟩ := open_u8 (hval 2 5 v2 rfl rfl) h2
  clear hA0 hval0 hsz0
  refine (law_pieces v0 a0 A1 c1 a1 a2 W o0 m0 o1 m1 o2).mono fun e W' ⟨he, hb⟩ => ?_
  subst he
  refine ⟨_, rfl, _, _, _, [], p0 ++ (p1 ++ (p2)), [], hW', trodAll_mk1 (shut_bool Try.underlying4 _), ?_, rfl, hb.frame _, fun h => by cases h⟩
  have r0 := Below.trod Try.laidOut (by kernel_rfl) (of_decide_eq_true (by kernel_rfl)) k0 hb (fun x hx => hlt x (by simp [hx]))
  have r1 := Below.trod Try.laidOut (by kernel_rfl) (of_decide_eq_true (by kernel_rfl)) k1 hb (fun x hx => hlt x (by simp [hx]))
  have r2 := Below.trod Try.laidOut (by kernel_rfl) (of_decide_eq_true (by kernel_rfl)) k2 hb (fun x hx => hlt x (by simp [hx]))
  exact trodAll_mk3 r0 r1 r2

theorem cutPieces_holds : Rows.CutPiecesSaid :=
  OpenClaim.holds_of_wide 6 Try.f6 rfl rfl rfl rfl rfl rfl rfl ⟨rfl, rfl, rfl, rfl, rfl⟩ rfl rfl rfl rfl rfl (by kernel_rfl) Try.func6 (by kernel_rfl)
    (of_decide_eq_true (by kernel_rfl)) (by unfold Func.isWrapper; first | (rw [if_pos (by decide +kernel)]; kernel_rfl) | (rw [if_neg (by decide +kernel)]; exact ⟨rfl, rfl⟩))
    (fun os started H enc _ => cutPieces_lifted os started H enc)
#print axioms cutPieces_holds
end Go.Proofs.Ytohokmfbcehkgaa
