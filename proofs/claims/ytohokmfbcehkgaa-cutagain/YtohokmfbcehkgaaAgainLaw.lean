/-
  CutAgain: whatever list of cells, and whatever two numbers, come in, the law answers true, and leaves all as it was. No conditions.
-/
import Derived.Test.YtohokmfbcehkgaaCLft
import Derived.Test.YtohokmfbcehkgaaCMt3
namespace Go.Proofs.Ytohokmfbcehkgaa
open Go.ChangeShapes Go.WideShapes Go.ChangeAt Go.RowKit Go.Joins Go.Deep

theorem mod_of (a q c : Nat) (qi ci : Int) (h1 : qi = (q : Int)) (h2 : ci = (c : Int)) (hq : 0 < q) : ∃ r k : Nat, (a : Int) % qi = (r : Int) ∧ ci + (r : Int) = (k : Int) ∧ c ≤ k ∧ k < c + q := by
  subst h1 h2
  exact ⟨a % q, c + a % q, by omega, by omega, by omega, by have := Nat.mod_lt a hq; omega⟩
theorem rolled_roll {m : Nat} {l L : List Cel} (hm : 1 ≤ m) (h : Rolled (m : Int) l L) : rollE L (m : Int) = 0 ∧ rollV L (m : Int) = [L] := by
  obtain ⟨e1, e2⟩ := roll_e0 (most := (m : Int)) (by omega) h.rises
  exact ⟨e1, by rw [e2, h.again]⟩

set_option maxRecDepth 100000 in
set_option maxHeartbeats 8000000 in
theorem law_again (v : Value) (l : List Cel) (a b : Nat) (w : World) (h : Cels w v l) (hml : l.length ≤ maxLen) (ha : a < 256) (hb : b < 256) :
    Calls Try.prog 8 #[v, .int .u8 (a : Int), .int .u8 (b : Int)] w fun e w' => e = .returned (.bool true) ∧ Old w w' := by
  have CB := Lib.hid (bounded_any w v l h hml none 0 [] (Strs.none w) (by simp))
  obtain ⟨A0, cap0, rfl, hc0⟩ := h.form
  have HI := Lib.hid h
  clear h hml
  go_enter Try.func8, Try.ntmps8
  go_wp2_with fail
  refine CB.out.mono ?_
  rintro e w1' ⟨rfl, hw1⟩
  have hw1' := hw1.symm
  subst hw1'
  clear hw1 CB
  cases hbd : boundedB l [] with
  | false =>
    go_wp2_with fail
    refine (shown_any _).mono ?_
    rintro e w2 ⟨rfl, o2⟩
    go_wp2
    go_ret
    exact ⟨rfl, o2⟩
  | true =>
    obtain ⟨hl2, hbs⟩ := bounded_len hbd
    clear hbd hbs
    go_wp2_with fail
    refine (shown_any _).mono ?_
    rintro e w2 ⟨rfl, o2⟩
    obtain ⟨ra, ka, ea1, ea2, ea3, ea4⟩ := mod_of a 20 1 20 1 rfl rfl (by omega)
    obtain ⟨rb, kb, eb1, eb2, eb3, eb4⟩ := mod_of b 20 ka 20 (ka : Int) rfl rfl (by omega)
    have C1 := roll_any w2 _ l (HI.out.old o2) (by omega) (ka : Int) (by omega)
    go_wp2_with fail
    refine C1.mono ?_
    clear C1
    rintro e w3 ⟨u1, us1, rfl, h1, o3⟩
    have o3' := o2.tr o3
    obtain ⟨B1, k1, rfl, -⟩ := h1.form
    cases hr : rising l with
    | false =>
      rw [(roll_e40 (most := (ka : Int)) (by omega) hr).1]
      clear h1 hr
      go_wp2
      go_ret
      exact ⟨rfl, o3'⟩
    | true =>
      obtain ⟨e1, e2⟩ := roll_e0 (l := l) (most := (ka : Int)) (by omega) hr
      obtain ⟨f1, f2⟩ := roll_e0 (l := l) (most := (kb : Int)) (by omega) hr
      have C2 := roll_any w3 _ l (HI.out.old o3') (by omega) (kb : Int) (by omega)
      rw [e1]
      rw [e2] at h1 ⊢
      rw [f1, f2] at C2
      have HRO := Lib.hid (fun L hL => rolled_roll ea3 (roll_rolled hr (m := (ka : Int)) L hL))
      have hlw := roll_wide_len (m := (ka : Int)) (m2 := (kb : Int)) (by omega) l
      have hln := rollL_len (ka : Int) l
      have HML := Lib.hid (show ∀ L ∈ rollL (ka : Int) l, L.length ≤ 80 from fun L hL => by
        have := mem_len hL
        rw [rollL_flat] at this
        omega)
      have H1 := Lib.hid h1
      generalize rollL (ka : Int) l = RA at *
      generalize rollL (kb : Int) l = RB at *
      clear h1 e1 e2 f1 f2 hr
      go_wp2_with fail
      refine C2.mono ?_
      clear C2
      rintro e w4 ⟨u2, us2, rfl, h2, o4⟩
      have o4' := o3'.tr o4
      obtain ⟨B2, k2, rfl, -⟩ := h2.form
      clear h2
      have H4 := Lib.hid (H1.out.old o4)
      clear H1
      go_wp2_with fail
      go_loopw [12] (fun iv wr => ∃ k : Nat, iv = .int .i64 (k : Int) ∧ k ≤ RA.length ∧ Old w4 wr) (fun iv _ => RA.length - (intOf iv).toNat)
      case atStart => exact ⟨0, rfl, Nat.zero_le _, Old.re _⟩
      case round =>
        obtain ⟨k, rfl, hk, o5⟩ := hrel
        by_cases hlt : k < RA.length
        · obtain ⟨L, HX⟩ : ∃ L, Hid (RA[k]? = some L) := ⟨RA[k], Lib.hid (List.getElem?_eq_getElem hlt)⟩
          obtain ⟨g1, v1, c1, rfl, -, -, hv1, -, hcell1⟩ := (H4.out.old o5).at_ HX.out
          have hL80 := HML.out L (List.mem_of_getElem? HX.out)
          have C3 := roll_any wr v1 L hv1.cels (by omega) (ka : Int) (by omega)
          obtain ⟨r1, r2⟩ := HRO.out L (List.mem_of_getElem? HX.out)
          rw [r1, r2] at C3
          have HV := Lib.hid hv1.cels
          obtain ⟨A3, k3, rfl, -⟩ := hv1.cels.form
          have i1 : (k : Int) < (RA.length : Int) := by omega
          have i2 : (0 : Int) ≤ (k : Int) := by omega
          clear r1 r2 hv1
          go_wp2_with fail
          refine C3.mono ?_
          clear C3
          rintro e w6 ⟨u6, us6, rfl, h6, o6⟩
          obtain ⟨B6, k6, rfl, -⟩ := h6.form
          obtain ⟨g6, v6, c6, rfl, -, -, hv6, -, hcell6⟩ := h6.at_ (show ([L] : List (List Cel))[0]? = some L from rfl)
          have HC := Lib.hid (fun (W : World) (o : Old w6 W) => sameC_any W v6 (.slice A3 L.length k3) L (hv6.cels.old o) ((HV.out.old o6).old o) (by omega))
          obtain ⟨A7, k7, rfl, -⟩ := hv6.cels.form
          have hcell2 := cell_old hcell1 o6
          have hw0 : IntKind.i64.wrap (k : Int) = (k : Int) := by rw [IntKind.wrap_i64]; omega
          have hS : Old w6 w6 ∧ w6.cell? ⟨g6, 0, none⟩ = some (.slice A7 L.length k7) ∧ w6.cell? ⟨g1, k, none⟩ = some (.slice A3 L.length k3) := ⟨Old.re _, hcell6, hcell2⟩
          have o7 := o5.tr o6
          simp only [List.length_cons, List.length_nil, Nat.zero_add] at *
          clear h6 hv6 hcell1 hcell2 hcell6
          go_wp2_with fail
          go_region_held3 (fun W => Old w6 W ∧ W.cell? ⟨g6, 0, none⟩ = some (.slice A7 L.length k7) ∧ W.cell? ⟨g1, k, none⟩ = some (.slice A3 L.length k3)) (first | exact ⟨hS.1.dr, hS.2⟩ | exact two_old (by assumption) (by assumption))
            (first
              | (go_at_call 22; with_reducible refine (HC.out _ (And.left (by assumption))).mono ?_; rintro r w1 ⟨rfl, h1b⟩))
          have f9 : Old w6 w1 := And.left (by assumption)
          have f10 := o7.tr f9
          clear hS
          go_wp2
          go_roundw
          case rel => exact ⟨k + 1, by go_num, by omega, f10⟩
          case measure => simp [intOf]; omega
        · obtain rfl : k = RA.length := by omega
          have o8 := o4'.tr o5
          have i3 : (RB.length : Int) ≤ (RA.length : Int) := by omega
          go_wp2
          go_ret
          exact ⟨rfl, o8⟩

set_option maxRecDepth 100000 in
theorem cutAgain_lifted (os : Os) (started : os.Started) (H : Type) (enc : TypeId × Value → H) :
    ReturnsInHanded {} Try.checked os 8 .any (Rows.cutAgainSpec.pre6 enc Try.prog Try.f8 Rows.cutAgainRow.domain false) (Rows.cutAgainSpec.post enc Try.prog Try.f8 false true false false) := by
  refine returnsInHanded_of_change_sized (C := Try.checked) Try.own started (by kernel_rfl) Try.func8
    (ChangeSpec.witness6 (enc := enc) (C := Try.checked) false ⟨#[], #[.slice none 0 0, .int .u8 0, .int .u8 0], []⟩ 8 (by kernel_rfl) (by kernel_rfl) (by kernel_rfl) (by kernel_rfl)) ?_
  intro W base args ds gs before hval0 hW hcnd hsz0 _
  have hval : ∀ (j : Nat) t v, Try.f8.params[j]? = some t → args[j]? = some v → Value.okWide Try.prog W .any base t v := hval0
  have hW' := hW
  obtain ⟨p, q, hA0, hV, rfl, hfz, hnd⟩ := hW
  have hA : DataW.TrodAll enc Try.prog W 0 (fun _ => true) true Try.f8.params.toList args.toList ds p := hA0
  have hsz : (DataW.weightsEach Try.prog (Try.f8.params.toList ++ Rows.cutAgainSpec.plain.varTypes Try.prog) (ds ++ gs)).all (· ≤ reachBytes) = true := hsz0
  rw [Try.params8] at hA hval hsz
  obtain ⟨v0, v1, v2, d0, d1, d2, p0, p1, p2, rfl, rfl, rfl, h0, h1, h2⟩ := trodAll_three hA
  obtain ⟨rfl, rfl⟩ := trodVars_none hV
  have hlt : ∀ x ∈ p0 ++ (p1 ++ (p2)), x.block < W.heap.size := fun x hx => hW'.lt x (by simpa using hx)
  have k0 := h0
  have k1 := h1
  have k2 := h2
  obtain ⟨a0, o0, m0, -⟩ := open_cels (hval 0 22 v0 rfl rfl) h0
  obtain ⟨a1, rfl, o1⟩ := open_u8 (hval 1 5 v1 rfl rfl) h1
  obtain ⟨a2, rfl, o2⟩ := open_u8 (hval 2 5 v2 rfl rfl) h2
  clear hA0 hval0 hsz0
  refine (law_again v0 a0 a1 a2 W o0 m0 o1 o2).mono fun e W' ⟨he, hb⟩ => ?_
  subst he
  refine ⟨_, rfl, _, _, _, [], p0 ++ (p1 ++ (p2)), [], hW', trodAll_mk1 (shut_bool Try.underlying4 _), ?_, rfl, hb.frame _, fun h => by cases h⟩
  have r0 := Below.trod Try.laidOut (by kernel_rfl) (of_decide_eq_true (by kernel_rfl)) k0 hb (fun x hx => hlt x (by simp [hx]))
  have r1 := Below.trod Try.laidOut (by kernel_rfl) (of_decide_eq_true (by kernel_rfl)) k1 hb (fun x hx => hlt x (by simp [hx]))
  have r2 := Below.trod Try.laidOut (by kernel_rfl) (of_decide_eq_true (by kernel_rfl)) k2 hb (fun x hx => hlt x (by simp [hx]))
  exact trodAll_mk3 r0 r1 r2

theorem cutAgain_holds : Rows.CutAgainSaid :=
  OpenClaim.holds_of_wide 8 Try.f8 rfl rfl rfl rfl rfl rfl rfl ⟨rfl, rfl, rfl, rfl, rfl⟩ rfl rfl rfl rfl rfl (by kernel_rfl) Try.func8 (by kernel_rfl)
    (of_decide_eq_true (by kernel_rfl)) (by unfold Func.isWrapper; first | (rw [if_pos (by decide +kernel)]; kernel_rfl) | (rw [if_neg (by decide +kernel)]; exact ⟨rfl, rfl⟩))
    (fun os started H enc _ => cutAgain_lifted os started H enc)
#print axioms cutAgain_holds
end Go.Proofs.Ytohokmfbcehkgaa
