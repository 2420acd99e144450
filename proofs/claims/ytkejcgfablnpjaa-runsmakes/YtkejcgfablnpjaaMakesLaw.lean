/-
  RunsMakes: whatever list of cells, and whatever number, come in, the law answers true, and leaves all as it was. No conditions.
-/
import Derived.Test.YtkejcgfablnpjaaRLft
namespace Go.Proofs.Ytkejcgfablnpjaa
open Go.ChangeShapes Go.WideShapes Go.ChangeAt Go.RowKit Go.Joins Go.Deep

/-- Rows of runs, told from their ends: for whatever both Makes answered. -/
structure Both (w : World) (v u : Value) (n : Nat) : Prop where
  lv : ∃ A cap, v = .slice A n cap
  lu : ∃ A cap, u = .slice A n cap
  al : ∀ i, i < n → ∃ x y out g cap h c, v = .slice (some ⟨g, 0, none⟩) n cap ∧ w.cell? ⟨g, i, none⟩ = some x ∧ u = .slice (some ⟨h, 0, none⟩) n c ∧ w.cell? ⟨h, i, none⟩ = some y ∧ out.length ≤ 40000 ∧ Itms w x out ∧ Itms w y out
theorem Both.old {w w' : World} {v u : Value} {n : Nat} (h : Both w v u n) (o : Old w w') : Both w' v u n := by
  refine ⟨h.lv, h.lu, fun i hi => ?_⟩
  obtain ⟨x, y, out, g, cap, k, c, h1, h2, h3, h4, h5, h6, h7⟩ := h.al i hi
  exact ⟨x, y, out, g, cap, k, c, h1, cell_old h2 o, h3, cell_old h4 o, h5, h6.old o, h7.old o⟩
theorem both_of {w : World} {v u : Value} {l : List Itm} {m : Nat} (h1 : Made w v l m) (h2 : MadeR w u l m) (hl : l.length ≤ 30000) : Both w v u (many l.length m) := by
  obtain ⟨b1, vs, p1, p2, p3⟩ := h1
  obtain ⟨b2, us, q1, q2, q3⟩ := h2
  refine ⟨row_len p1, row_len q1, fun i hi => ?_⟩
  obtain ⟨x, hx⟩ : ∃ x, vs[i]? = some x := ⟨vs[i], List.getElem?_eq_getElem (by omega)⟩
  obtain ⟨y, hy⟩ : ∃ y, us[i]? = some y := ⟨us[i], List.getElem?_eq_getElem (by omega)⟩
  obtain ⟨g, cap, e1, c1⟩ := row_at p1 hx
  obtain ⟨k, c, e2, c2⟩ := row_at q1 hy
  obtain ⟨out, r1, r2, r3⟩ := p3 i x hx
  obtain ⟨out2, s1, s2, s3⟩ := q3 i y hy
  have := r1.uniq s1
  subst this
  have hp := part_len l m i
  exact ⟨x, y, out, g, cap, k, c, e1, c1, e2, c2, by omega, r3.its, s3.its⟩
theorem both_bad (w : World) : Both w (.slice none 0 0) (.slice none 0 0) 0 := ⟨⟨_, _, rfl⟩, ⟨_, _, rfl⟩, fun i hi => absurd hi (by omega)⟩

theorem two_old {w W W' : World} {g h i j : Nat} {x y : Value} (k0 : Old w W ∧ W.cell? ⟨g, i, none⟩ = some x ∧ W.cell? ⟨h, j, none⟩ = some y) (k : Old W W') : Old w W' ∧ W'.cell? ⟨g, i, none⟩ = some x ∧ W'.cell? ⟨h, j, none⟩ = some y := ⟨k0.1.tr k, cell_old k0.2.1 k, cell_old k0.2.2 k⟩
set_option maxRecDepth 100000 in
set_option maxHeartbeats 8000000 in
theorem law_makes (v : Value) (l : List Cel) (m : Int) (w : World) (h : Cels w v l) (hml : l.length ≤ maxLen) (hm : m ≤ 9223372036854775807) :
    Calls Try.prog 3 #[v, .int .i64 m] w fun e w' => e = .returned (.bool true) ∧ Old w w' := by
  obtain ⟨A0, cap0, rfl, hc0⟩ := h.form
  go_enter Try.func3, Try.ntmps3
  go_wp2_with fail
  refine (bounded_any _ _ _ h hml).mono ?_
  rintro e w1' ⟨rfl, rfl⟩
  cases hb : boundedB l with
  | false =>
    go_wp2_with fail
    refine (shown_any _).mono ?_
    rintro e w2 ⟨rfl, o2⟩
    go_wp2
    go_ret
    exact ⟨rfl, o2⟩
  | true =>
    have hl2 : l.length ≤ 80 := bounded_len hb
    have HL := Lib.hid hl2
    clear hb hml
    go_wp2_with fail
    refine (shown_any _).mono ?_
    rintro e w2 ⟨rfl, o2⟩
    have h2 := h.old o2
    have CM : ∃ n er, Hid (∀ W, Cels W (.slice A0 l.length cap0) l → Calls Try.prog 10 #[.slice A0 l.length cap0, .int .i64 m] W fun e W' => ∃ u, e = .returned (.tuple #[u, .int .i64 er]) ∧ Old W W' ∧ (∀ W2, Old W' W2 → Cels W2 (.slice A0 l.length cap0) l → Calls Try.prog 11 #[.slice A0 l.length cap0, .int .i64 m] W2 fun e W3 => ∃ u2, e = .returned (.tuple #[u2, .int .i64 er]) ∧ Old W2 W3 ∧ Both W3 u u2 n)) ∧ n ≤ 80 := by
      by_cases hm1 : m < 1
      · refine ⟨0, 1, Lib.hid fun W hW => ?_, by omega⟩
        refine (make_bad _ m hm1 W).mono ?_
        rintro e W' ⟨rfl, o⟩
        refine ⟨_, rfl, o, fun W2 _ _ => ?_⟩
        refine (rmake_bad _ m hm1 W2).mono ?_
        rintro e W3 ⟨rfl, o3⟩
        exact ⟨_, rfl, o3, both_bad _⟩
      · obtain ⟨k, rfl⟩ := Int.eq_ofNat_of_zero_le (show 0 ≤ m by omega)
        refine ⟨many (itemsOf l).length k, 0, Lib.hid fun W hW => ?_, ?_⟩
        · refine (make_any W _ l hW (by omega) k (by omega) (by omega)).mono ?_
          rintro e W' ⟨u, rfl, hMd, o⟩
          refine ⟨u, rfl, o, fun W2 oo hC => ?_⟩
          refine (rmake_any W2 _ l hC (by omega) k (by omega) (by omega)).mono ?_
          rintro e W3 ⟨u2, rfl, hMr, o3⟩
          exact ⟨u2, rfl, o3, both_of ((hMd.old oo).old o3) hMr (by rw [itemsOf_len]; omega)⟩
        · rw [itemsOf_len]
          unfold many
          have : (l.length + k - 1) / k ≤ l.length := by
            rw [Nat.div_le_iff_le_mul_add_pred (by omega)]
            have : l.length * 1 ≤ l.length * k := Nat.mul_le_mul_left _ (by omega)
            rw [Nat.mul_comm k]
            omega
          omega
    obtain ⟨n, er, HC, hn80⟩ := CM
    clear h
    go_wp2_with fail
    refine (HC.out _ h2).mono ?_
    rintro e w3 ⟨u, rfl, o3, HR⟩
    have HR := Lib.hid HR
    have h3 := h2.old o3
    have o4 := o2.tr o3
    clear h2 o2 o3 HC
    go_wp2_with fail
    refine (HR.out _ (Old.re _) h3).mono ?_
    rintro e w4 ⟨u2, rfl, o5, hB⟩
    have h4 := h3.old o5
    have o6 := o4.tr o5
    clear h3 o4 o5 HR
    obtain ⟨A1, c1, rfl⟩ := hB.lv
    obtain ⟨A2, c2, rfl⟩ := hB.lu
    go_wp2_with fail
    refine (items_any _ _ l h4 (by omega)).mono ?_
    rintro e w5 ⟨ui, rfl, o7, hi⟩
    have h5 := h4.old o7
    have hB := hB.old o7
    have o8 := o6.tr o7
    have hil := itemsOf_len l
    clear h4 o6 o7
    go_wp2_with fail
    refine (its_any _ _ (itemsOf l) hi.its (by omega)).mono ?_
    rintro e w6 ⟨uj, rfl, o9, hj⟩
    have h6 := h5.old o9
    have hB := hB.old o9
    have o10 := o8.tr o9
    clear h5 o8 o9 hi
    go_wp2_with fail
    refine (ritems_any _ _ l h6 (by omega)).mono ?_
    rintro e w7 ⟨uk, rfl, o11, hk⟩
    have hj := hj.its.old o11
    have hB := hB.old o11
    have o12 := o10.tr o11
    clear h6 o10 o11
    go_wp2_with fail
    refine (rsameL_any _ _ _ (itemsOf l) hj hk.its (by omega)).mono ?_
    rintro e w8 ⟨rfl, o13⟩
    have HB := Lib.hid (hB.old o13)
    have o14 := o12.tr o13
    clear hj hk o12 o13 hil hB
    go_wp2_with fail
    go_loopw [9] (fun iv wr => ∃ k : Nat, iv = .int .i64 k ∧ k ≤ n ∧ Old w1' wr ∧ Hid (Both wr (.slice A1 n c1) (.slice A2 n c2) n)) (fun iv _ => n - (intOf iv).toNat)
    case atStart => exact ⟨0, rfl, Nat.zero_le _, o14, HB⟩
    case round =>
      clear o14 HB
      obtain ⟨k, rfl, hk, o1, HB⟩ := hrel
      by_cases hlt : k < n
      · obtain ⟨x, y, out, g, cap, h', c', e1, q1, e2, q2, hol, hx, hy⟩ := HB.out.al k hlt
        injection e1 with e1 _ e3
        injection e2 with e2 _ e4
        subst e1 e2 e3 e4
        have HX := Lib.hid (And.intro hx hy)
        clear hx hy
        obtain ⟨Ax, cx, rfl, hcx⟩ := HX.out.1.form
        obtain ⟨Ay, cy, rfl, hcy⟩ := HX.out.2.form
        have b1 : (0 : Int) ≤ (k : Int) := by omega
        have b2 : (k : Int) < (n : Int) := by omega
        have HI := Lib.hid (show ∀ W, Old wr W → Calls Try.prog 13 #[.slice Ax out.length cx] W fun e w' => ∃ u, e = .returned u ∧ Old W w' ∧ Old wr w' ∧ Itms w' u out from fun W o => (its_any W _ out (HX.out.1.old o) (by omega)).mono fun e w' ⟨u, h1, h2, h3⟩ => ⟨u, h1, h2, o.tr h2, h3.its⟩)
        have hS : Old wr wr ∧ wr.cell? ⟨g, k, none⟩ = some (.slice Ax out.length cx) ∧ wr.cell? ⟨h', k, none⟩ = some (.slice Ay out.length cy) := ⟨Old.re _, q1, q2⟩
        clear q1 q2
        go_upto_region 10 with (fail)
        go_region_held3 (fun W => Old wr W ∧ W.cell? ⟨g, k, none⟩ = some (.slice Ax out.length cx) ∧ W.cell? ⟨h', k, none⟩ = some (.slice Ay out.length cy)) (first | exact ⟨hS.1.dr, hS.2⟩ | exact two_old (by assumption) (by assumption))
          (first
            | (go_at_call 13; with_reducible refine (HI.out _ (Old.re _).dr).mono ?_; rintro r wI ⟨uI, rfl, oI, oI2, ownI⟩)
            | (go_at_call 12; with_reducible refine (rsameL_any _ _ _ out ownI (HX.out.2.old oI2) (by omega)).mono ?_; rintro r wJ ⟨rfl, oJ⟩))
        rename_i hHeld
        have f9 := hHeld.1
        have HB2 := Lib.hid (HB.out.old f9)
        have o2 := o1.tr f9
        clear hHeld hS f9 HB ownI oI oI2 oJ HI HX
        go_wp2
        go_roundw
        case rel => exact ⟨k + 1, by go_num, by omega, o2, HB2⟩
        case measure => simp [intOf]; omega
      · obtain rfl : k = n := by omega
        go_wp2
        go_ret
        exact ⟨rfl, o1⟩

set_option maxRecDepth 100000 in
theorem runsMakes_lifted (os : Os) (started : os.Started) (H : Type) (enc : TypeId × Value → H) :
    ReturnsInHanded {} Try.checked os 3 .any (Rows.runsMakesSpec.pre6 enc Try.prog Try.f3 Rows.runsMakesRow.domain false) (Rows.runsMakesSpec.post enc Try.prog Try.f3 false true false false) := by
  refine returnsInHanded_of_change_sized (C := Try.checked) Try.own started (by kernel_rfl) Try.func3
    (ChangeSpec.witness6 (enc := enc) (C := Try.checked) false ⟨#[], #[.slice none 0 0, .int .i64 0], []⟩ 8 (by kernel_rfl) (by kernel_rfl) (by kernel_rfl) (by kernel_rfl)) ?_
  intro W base args ds gs before hval0 hW hcnd hsz0 _
  have hval : ∀ (j : Nat) t v, Try.f3.params[j]? = some t → args[j]? = some v → Value.okWide Try.prog W .any base t v := hval0
  have hW' := hW
  obtain ⟨p, q, hA0, hV, rfl, hfz, hnd⟩ := hW
  have hA : DataW.TrodAll enc Try.prog W 0 (fun _ => true) true Try.f3.params.toList args.toList ds p := hA0
  have hsz : (DataW.weightsEach Try.prog (Try.f3.params.toList ++ Rows.runsMakesSpec.plain.varTypes Try.prog) (ds ++ gs)).all (· ≤ reachBytes) = true := hsz0
  rw [Try.params3] at hA hval hsz
  obtain ⟨v0, v1, d0, d1, p0, p1, rfl, rfl, rfl, h0, h1⟩ := trodAll_two hA
  obtain ⟨rfl, rfl⟩ := trodVars_none hV
  have hlt : ∀ x ∈ p0 ++ (p1), x.block < W.heap.size := fun x hx => hW'.lt x (by simpa using hx)
  have k0 := h0
  have k1 := h1
  obtain ⟨a0, o0, m0, -⟩ := open_cels (hval 0 22 v0 rfl rfl) h0
  obtain ⟨a1, rfl, o1⟩ := open_i64 (hval 1 3 v1 rfl rfl) h1
  clear hA0 hval0 hsz0
  refine (law_makes _ a0 a1 W o0 m0 o1).mono fun e W' ⟨he, hb⟩ => ?_
  subst he
  refine ⟨_, rfl, _, _, _, [], p0 ++ (p1), [], hW', trodAll_mk1 (shut_bool Try.underlying4 _), ?_, rfl, hb.frame _, fun h => by cases h⟩
  have r0 := Below.trod Try.laidOut (by kernel_rfl) (of_decide_eq_true (by kernel_rfl)) k0 hb (fun x hx => hlt x (by simp [hx]))
  have r1 := Below.trod Try.laidOut (by kernel_rfl) (of_decide_eq_true (by kernel_rfl)) k1 hb (fun x hx => hlt x (by simp [hx]))
  exact trodAll_mk2 r0 r1

theorem runsMakes_holds : Rows.RunsMakesSaid :=
  OpenClaim.holds_of_wide 3 Try.f3 rfl rfl rfl rfl rfl rfl rfl ⟨rfl, rfl, rfl, rfl, rfl⟩ rfl rfl rfl rfl rfl (by kernel_rfl) Try.func3 (by kernel_rfl)
    (of_decide_eq_true (by kernel_rfl)) (by unfold Func.isWrapper; first | (rw [if_pos (by decide +kernel)]; kernel_rfl) | (rw [if_neg (by decide +kernel)]; exact ⟨rfl, rfl⟩))
    (fun os started H enc _ => runsMakes_lifted os started H enc)
#print axioms runsMakes_holds
end Go.Proofs.Ytkejcgfablnpjaa
