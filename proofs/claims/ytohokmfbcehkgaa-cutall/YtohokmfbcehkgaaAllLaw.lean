/-
  CutAll: whatever list of cells, borders and size come in, the law answers true, and leaves all as it was. No conditions.
-/
import Derived.Test.YtohokmfbcehkgaaCLft
namespace Go.Proofs.Ytohokmfbcehkgaa
open Go.ChangeShapes Go.WideShapes Go.ChangeAt Go.RowKit Go.Joins Go.Deep

theorem upP_mem {LL : List (List Cel)} {most : Int} {n : Nat} {q : Nat × List Cel} (h : q ∈ upP LL most n) : q.1 < n ∧ q.2 ∈ rollL most (LL[q.1]?.getD []) := by
  unfold upP at h
  obtain ⟨i, hi, hq⟩ := List.mem_flatMap.1 h
  obtain ⟨c, hc, rfl⟩ := List.mem_map.1 hq
  exact ⟨by simpa using hi, hc⟩
theorem allV_le (l : List Cel) (bs : List (List UInt8)) (most : Int) (hl : l.length ≤ 1000) (hbs : bs.length ≤ 500) : (allV l bs most).length ≤ 600000 ∧ ∀ (k t : Nat) (c : List Cel), (allV l bs most)[k]? = some (t, c) → c.length ≤ l.length := by
  have hL : ∀ L ∈ splitL bs l, L.length ≤ l.length := fun L hL => by
    unfold splitL at hL
    obtain ⟨i, -, rfl⟩ := List.mem_map.1 hL
    exact List.length_filter_le _ _
  unfold allV
  split
  · exact ⟨by simp, fun k t c h => by simp at h⟩
  · refine ⟨?_, fun k t c h => ?_⟩
    · have := upP_len (splitL bs l) most (bs.length + 1) (fun L hL' => by have := hL L hL'; omega)
      omega
    · obtain ⟨h1, h2⟩ := upP_mem (List.mem_of_getElem? h)
      have h3 := mem_len h2
      rw [rollL_flat] at h3
      dsimp only at h3
      cases hx : (splitL bs l)[t]? with
      | none =>
        rw [hx, Option.getD_none, List.length_nil] at h3
        omega
      | some L =>
        rw [hx, Option.getD_some] at h3
        have := hL L (List.mem_of_getElem? hx)
        omega
theorem four_old {w W W' : World} {a b o p q s : Nat} {x y z u : Value} (h : Old w W ∧ W.cell? ⟨a, o, none⟩ = some x ∧ W.cell? ⟨a, p, none⟩ = some y ∧ W.cell? ⟨b, q, none⟩ = some z ∧ W.cell? ⟨b, s, none⟩ = some u) (k : Old W W') : Old w W' ∧ W'.cell? ⟨a, o, none⟩ = some x ∧ W'.cell? ⟨a, p, none⟩ = some y ∧ W'.cell? ⟨b, q, none⟩ = some z ∧ W'.cell? ⟨b, s, none⟩ = some u :=
  ⟨h.1.tr k, cell_old h.2.1 k, cell_old h.2.2.1 k, cell_old h.2.2.2.1 k, cell_old h.2.2.2.2 k⟩

set_option maxRecDepth 100000 in
set_option maxHeartbeats 8000000 in
theorem law_all (v : Value) (l : List Cel) (A2 : Option Addr) (cap2 : Nat) (bs : List (List UInt8)) (most : Int) (w : World) (h : Cels w v l) (hml : l.length ≤ maxLen) (hS : Strs w A2 cap2 bs) (hcap : cap2 ≤ maxLen) (hmost : most ≤ 9223372036854775807) :
    Calls Try.prog 5 #[v, .slice A2 bs.length cap2, .int .i64 most] w fun e w' => e = .returned (.bool true) ∧ Old w w' := by
  have CB := Lib.hid (bounded_any w v l h hml A2 cap2 bs hS hcap)
  obtain ⟨A0, cap0, rfl, hc0⟩ := h.form
  have HI := Lib.hid h
  have HS := Lib.hid hS
  clear h hS hml hcap
  go_enter Try.func5, Try.ntmps5
  go_wp2_with fail
  refine CB.out.mono ?_
  rintro e w1' ⟨rfl, hw1⟩
  have hw1' := hw1.symm
  subst hw1'
  clear hw1 CB
  cases hbd : boundedB l bs with
  | false =>
    go_wp2_with fail
    refine (shown_any _).mono ?_
    rintro e w2 ⟨rfl, o2⟩
    go_wp2
    go_ret
    exact ⟨rfl, o2⟩
  | true =>
    obtain ⟨hl2, hbs⟩ := bounded_len hbd
    clear hbd
    go_wp2_with fail
    refine (shown_any _).mono ?_
    rintro e w2 ⟨rfl, o2⟩
    have C1 := all_any w2 _ l (HI.out.old o2) (by omega) A2 cap2 bs (HS.out.old o2) (by omega) most hmost
    go_wp2_with fail
    refine C1.mono ?_
    clear C1
    rintro e w3 ⟨u1, ps1, rfl, h1, o3⟩
    have o3' := o2.tr o3
    have C2 := rall_any w3 _ l (HI.out.old o3') (by omega) A2 cap2 bs (HS.out.old o3') (by omega) most hmost
    obtain ⟨B1, k1, rfl, -⟩ := h1.form
    have H1 := Lib.hid h1
    clear h1
    go_wp2_with fail
    refine C2.mono ?_
    clear C2
    rintro e w4 ⟨u2, ps2, rfl, h2, o4⟩
    have o4' := o3'.tr o4
    obtain ⟨B2, k2, rfl, -⟩ := h2.form
    have H2 := Lib.hid h2
    have H1' := Lib.hid (H1.out.old o4)
    have HLE := Lib.hid (allV_le l bs most (by omega) (by omega))
    have hle := HLE.out.1
    generalize allV l bs most = PL at *
    clear h2 H1
    go_wp2_with fail
    go_loopw [11] (fun iv wr => ∃ k : Nat, iv = .int .i64 (k : Int) ∧ k ≤ PL.length ∧ Old w4 wr) (fun iv _ => PL.length - (intOf iv).toNat)
    case atStart => exact ⟨0, rfl, Nat.zero_le _, Old.re _⟩
    case round =>
      obtain ⟨k, rfl, hk, o5⟩ := hrel
      by_cases hlt : k < PL.length
      · obtain ⟨t, c, HX⟩ : ∃ t c, Hid (PL[k]? = some (t, c)) := ⟨PL[k].1, PL[k].2, Lib.hid (List.getElem?_eq_getElem hlt)⟩
        obtain ⟨g1, v1, rfl, hv1, x1, y1⟩ := (H1'.out.old o5).at_ HX.out
        obtain ⟨g2, v2, rfl, hv2, x2, y2⟩ := (H2.out.old o5).at_ HX.out
        have hcl := HLE.out.2 k t c HX.out
        have HC := Lib.hid (fun (W : World) (o : Old wr W) => sameC_any W v1 v2 c (hv1.cels.old o) (hv2.cels.old o) (by omega))
        obtain ⟨A3, k3, rfl, -⟩ := hv1.cels.form
        obtain ⟨A4, k4, rfl, -⟩ := hv2.cels.form
        have hb1 : (0 : Int) ≤ (k : Int) := by omega
        have hb2 : (k : Int) < (PL.length : Int) := by omega
        have hw0 : IntKind.i64.wrap (k : Int) = (k : Int) := by rw [IntKind.wrap_i64]; omega
        have hS4 : Old wr wr ∧ wr.cell? ⟨g1, k * 2, none⟩ = some (.int .i64 (t : Int)) ∧ wr.cell? ⟨g1, k * 2 + 1, none⟩ = some (.slice A3 c.length k3) ∧ wr.cell? ⟨g2, k * 2, none⟩ = some (.int .i64 (t : Int)) ∧ wr.cell? ⟨g2, k * 2 + 1, none⟩ = some (.slice A4 c.length k4) := ⟨Old.re _, x1, y1, x2, y2⟩
        clear hv1 hv2 x1 x2 y1 y2
        go_wp2_with fail
        go_region_held3 (fun W => Old wr W ∧ W.cell? ⟨g1, k * 2, none⟩ = some (.int .i64 (t : Int)) ∧ W.cell? ⟨g1, k * 2 + 1, none⟩ = some (.slice A3 c.length k3) ∧ W.cell? ⟨g2, k * 2, none⟩ = some (.int .i64 (t : Int)) ∧ W.cell? ⟨g2, k * 2 + 1, none⟩ = some (.slice A4 c.length k4)) (first | exact ⟨hS4.1.dr, hS4.2⟩ | exact four_old (by assumption) (by assumption))
          (first
            | (go_at_call 22; with_reducible refine (HC.out _ (And.left (by assumption))).mono ?_; rintro r w1 ⟨rfl, h1b⟩))
        have f9 : Old wr w1 := And.left (by assumption)
        have f10 := o5.tr f9
        clear hS4
        go_wp2
        go_roundw
        case rel => exact ⟨k + 1, by go_num, by omega, f10⟩
        case measure => simp [intOf]; omega
      · obtain rfl : k = PL.length := by omega
        have o6 := o4'.tr o5
        go_wp2
        go_ret
        exact ⟨rfl, o6⟩

set_option maxRecDepth 100000 in
theorem cutAll_lifted (os : Os) (started : os.Started) (H : Type) (enc : TypeId × Value → H) :
    ReturnsInHanded {} Try.checked os 5 .any (Rows.cutAllSpec.pre6 enc Try.prog Try.f5 Rows.cutAllRow.domain false) (Rows.cutAllSpec.post enc Try.prog Try.f5 false true false false) := by
  refine returnsInHanded_of_change_sized (C := Try.checked) Try.own started (by kernel_rfl) Try.func5
    (ChangeSpec.witness6 (enc := enc) (C := Try.checked) false ⟨#[], #[.slice none 0 0, .slice none 0 0, .int .i64 0], []⟩ 8 (by kernel_rfl) (by kernel_rfl) (by kernel_rfl) (by kernel_rfl)) ?_
  intro W base args ds gs before hval0 hW hcnd hsz0 _
  have hval : ∀ (j : Nat) t v, Try.f5.params[j]? = some t → args[j]? = some v → Value.okWide Try.prog W .any base t v := hval0
  have hW' := hW
  obtain ⟨p, q, hA0, hV, rfl, hfz, hnd⟩ := hW
  have hA : DataW.TrodAll enc Try.prog W 0 (fun _ => true) true Try.f5.params.toList args.toList ds p := hA0
  have hsz : (DataW.weightsEach Try.prog (Try.f5.params.toList ++ Rows.cutAllSpec.plain.varTypes Try.prog) (ds ++ gs)).all (· ≤ reachBytes) = true := hsz0
  rw [Try.params5] at hA hval hsz
  obtain ⟨v0, v1, v2, d0, d1, d2, p0, p1, p2, rfl, rfl, rfl, h0, h1, h2⟩ := trodAll_three hA
  obtain ⟨rfl, rfl⟩ := trodVars_none hV
  have hlt : ∀ x ∈ p0 ++ (p1 ++ (p2)), x.block < W.heap.size := fun x hx => hW'.lt x (by simpa using hx)
  have k0 := h0
  have k1 := h1
  have k2 := h2
  obtain ⟨a0, o0, m0, -⟩ := open_cels (hval 0 22 v0 rfl rfl) h0
  obtain ⟨a1, A1, c1, rfl, o1, m1⟩ := open_strs (hval 1 23 v1 rfl rfl) h1 (fun x hx => hlt x (by simp [hx]))
  obtain ⟨a2, rfl, o2⟩ := open_i64 (hval 2 3 v2 rfl rfl) h2
  clear hA0 hval0 hsz0
  refine (law_all v0 a0 A1 c1 a1 a2 W o0 m0 o1 m1 o2).mono fun e W' ⟨he, hb⟩ => ?_
  subst he
  refine ⟨_, rfl, _, _, _, [], p0 ++ (p1 ++ (p2)), [], hW', trodAll_mk1 (shut_bool Try.underlying4 _), ?_, rfl, hb.frame _, fun h => by cases h⟩
  have r0 := Below.trod Try.laidOut (by kernel_rfl) (of_decide_eq_true (by kernel_rfl)) k0 hb (fun x hx => hlt x (by simp [hx]))
  have r1 := Below.trod Try.laidOut (by kernel_rfl) (of_decide_eq_true (by kernel_rfl)) k1 hb (fun x hx => hlt x (by simp [hx]))
  have r2 := Below.trod Try.laidOut (by kernel_rfl) (of_decide_eq_true (by kernel_rfl)) k2 hb (fun x hx => hlt x (by simp [hx]))
  exact trodAll_mk3 r0 r1 r2

theorem cutAll_holds : Rows.CutAllSaid :=
  OpenClaim.holds_of_wide 5 Try.f5 rfl rfl rfl rfl rfl rfl rfl ⟨rfl, rfl, rfl, rfl, rfl⟩ rfl rfl rfl rfl rfl (by kernel_rfl) Try.func5 (by kernel_rfl)
    (of_decide_eq_true (by kernel_rfl)) (by unfold Func.isWrapper; first | (rw [if_pos (by decide +kernel)]; kernel_rfl) | (rw [if_neg (by decide +kernel)]; exact ⟨rfl, rfl⟩))
    (fun os started H enc _ => cutAll_lifted os started H enc)
#print axioms cutAll_holds
end Go.Proofs.Ytohokmfbcehkgaa
