/-
  RunsResolves: whatever list of items, and whatever two numbers, come in, the law answers true, and leaves all as it was. No conditions.
-/
import Derived.Test.YtkejcgfablnpjaaRLft
namespace Go.Proofs.Ytkejcgfablnpjaa
open Go.ChangeShapes Go.WideShapes Go.ChangeAt Go.RowKit Go.Joins Go.Deep

set_option maxRecDepth 100000 in
set_option maxHeartbeats 8000000 in
theorem law_resolves (v : Value) (l : List Itm) (i j : Nat) (w : World) (h : Itms w v l) (hl : l.length * 72 ≤ 140737488355328) (hi : i < 256) (hj : j < 256) :
    Calls Try.prog 4 #[v, .int .u8 i, .int .u8 j] w fun e w' => e = .returned (.bool true) ∧ Old w w' := by
  have hml : (l.map (·.c)).length ≤ maxLen := by simp; unfold maxLen; omega
  obtain ⟨A0, cap0, rfl, hc0⟩ := h.form
  go_enter Try.func4, Try.ntmps4
  go_wp2_with fail
  refine (cells_any _ _ l h hl).mono ?_
  rintro e w1 ⟨u1, rfl, o1, c1⟩
  go_wp2_with fail
  refine (bounded_any _ _ _ c1 hml).mono ?_
  rintro e w1' ⟨rfl, rfl⟩
  cases hb : boundedB (l.map (·.c)) with
  | false =>
    clear c1
    go_wp2_with fail
    refine (shown_any _).mono ?_
    rintro e w2 ⟨rfl, o2⟩
    go_wp2
    go_ret
    exact ⟨rfl, o1.tr o2⟩
  | true =>
    have hl2 : l.length ≤ 80 := by have := bounded_len hb; simpa using this
    clear hb c1 hml hl
    go_wp2_with fail
    refine (shown_any _).mono ?_
    rintro e w2 ⟨rfl, o2⟩
    have o3 := o1.tr o2
    have h3 := h.old o3
    clear h o1 o2
    by_cases h0 : 0 < l.length
    · obtain ⟨a, ha⟩ : ∃ a, a = i % l.length := ⟨_, rfl⟩
      obtain ⟨b, hb⟩ : ∃ b, b = j % l.length := ⟨_, rfl⟩
      have ha1 : a < l.length := by rw [ha]; exact Nat.mod_lt _ h0
      have hb1 : b < l.length := by rw [hb]; exact Nat.mod_lt _ h0
      have ha2 : (i : Int).tmod (l.length : Int) = (a : Int) := by rw [ha]; rfl
      have hb2 : (j : Int).tmod (l.length : Int) = (b : Int) := by rw [hb]; rfl
      have hne : ¬ (l.length : Int) = 0 := by omega
      clear ha hb
      obtain ⟨x, hx⟩ : ∃ x, l[a]? = some x := ⟨l[a], List.getElem?_eq_getElem ha1⟩
      obtain ⟨y, hy⟩ : ∃ y, l[b]? = some y := ⟨l[b], List.getElem?_eq_getElem hb1⟩
      obtain ⟨g, off, rfl, hx7⟩ := h3.at_ hx
      obtain ⟨g', off', hg, hy7⟩ := h3.at_ hy
      injection hg with hg
      injection hg with hg1 hg2
      subst hg1 hg2
      have hS := pr_of hx7 hy7
      have H3 := Lib.hid h3
      have q1 : (0 : Int) ≤ (a : Int) := by omega
      have q2 : (a : Int) < (l.length : Int) := by omega
      have q3 : (0 : Int) ≤ (b : Int) := by omega
      have q4 : (b : Int) < (l.length : Int) := by omega
      clear hx hy hx7 hy7 h3
      go_upto_region 6 with (fail)
      obtain ⟨c, hcc⟩ : ∃ c, cmpI x y = c := ⟨_, rfl⟩
      have HC1 := Lib.hid (show ∀ W, Calls Try.prog 17 #[iv x, iv y] W fun e w' => e = .returned (.int .i64 c) ∧ Old W w' from fun W => by rw [← hcc]; exact icmp_any x y W)
      have HC2 := Lib.hid fun W => ricmp_at x y c hcc W
      clear hcc
      go_region_held3 (fun W => Old w2 W ∧ W.cell? ⟨g, off + a * 7, none⟩ = some (.string (B x.c.row)) ∧ W.cell? ⟨g, off + a * 7 + 1, none⟩ = some (.string (B x.c.col)) ∧ W.cell? ⟨g, off + a * 7 + 2, none⟩ = some (.int .u64 x.c.ts) ∧ W.cell? ⟨g, off + a * 7 + 3, none⟩ = some (.int .u64 x.c.seq) ∧ W.cell? ⟨g, off + a * 7 + 4, none⟩ = some (.bool x.c.del) ∧ W.cell? ⟨g, off + a * 7 + 5, none⟩ = some (.string (B x.c.val)) ∧ W.cell? ⟨g, off + a * 7 + 6, none⟩ = some (.int .i64 x.pos) ∧ W.cell? ⟨g, off + b * 7, none⟩ = some (.string (B y.c.row)) ∧ W.cell? ⟨g, off + b * 7 + 1, none⟩ = some (.string (B y.c.col)) ∧ W.cell? ⟨g, off + b * 7 + 2, none⟩ = some (.int .u64 y.c.ts) ∧ W.cell? ⟨g, off + b * 7 + 3, none⟩ = some (.int .u64 y.c.seq) ∧ W.cell? ⟨g, off + b * 7 + 4, none⟩ = some (.bool y.c.del) ∧ W.cell? ⟨g, off + b * 7 + 5, none⟩ = some (.string (B y.c.val)) ∧ W.cell? ⟨g, off + b * 7 + 6, none⟩ = some (.int .i64 y.pos)) (first | exact ⟨hS.1.dr, hS.2⟩ | exact pr_old (by assumption) (by assumption))
        (first
          | (go_at_call 17; with_reducible refine (HC1.out _).mono ?_; rintro r w4 ⟨rfl, h4b⟩)
          | (go_at_call 18; with_reducible refine (HC2.out _).mono ?_; rintro r w5 ⟨rfl, h5b⟩))
      rename_i hHeld
      have f9 := hHeld.1
      have h5 := H3.out.old f9
      have o5 := o3.tr f9
      clear hHeld hS f9 H3 h4b h5b HC1 HC2 q1 q2 q3 q4 ha2 hb2 o3
      go_wp2_with fail
      refine (resolve_any _ _ l h5 (by omega)).mono ?_
      rintro e w6 ⟨ux, z, rfl, r1, r2, k6, hz⟩
      have hz := hz.its
      have h6 := h5.old k6
      have o6 := o5.tr k6
      clear h5 k6 o5
      obtain ⟨Az, cz, rfl, hcz⟩ := hz.form
      go_wp2_with fail
      refine (its_any _ _ z hz (by omega)).mono ?_
      rintro e w7 ⟨ua, rfl, k7, ia⟩
      have hz := hz.old k7
      have h7 := h6.old k7
      have o7 := o6.tr k7
      clear h6 k7 o6
      go_wp2_with fail
      refine (its_any _ _ l h7 (by omega)).mono ?_
      rintro e w8 ⟨ub, rfl, k8, ib⟩
      have hz := hz.old k8
      have h8 := h7.old k8
      have ia := ia.its.old k8
      have o8 := o7.tr k8
      clear h7 k8 o7
      go_wp2_with fail
      refine (rresolve_any _ _ l ib.its (by omega)).mono ?_
      rintro e w9 ⟨uc, z2, rfl, s1, s2, k9, ic⟩
      have hzz := s1.uniq r1
      subst hzz
      have hz := hz.old k9
      have h9 := h8.old k9
      have ia := ia.old k9
      have o9 := o8.tr k9
      clear h8 k9 o8 ib
      go_wp2_with fail
      refine (rsameL_any _ _ _ z2 ia ic.its (by omega)).mono ?_
      rintro e w10 ⟨rfl, k10⟩
      have hz := hz.old k10
      have h10 := h9.old k10
      have o10 := o9.tr k10
      clear h9 k10 o9 ia ic
      go_wp2_with fail
      refine (sorted_any _ _ l h10 (by omega)).mono ?_
      rintro e w11 ⟨rfl, k11⟩
      have hz := hz.old k11
      have h11 := h10.old k11
      have o11 := o10.tr k11
      clear h10 k11 o10
      go_wp2_with fail
      refine (its_any _ _ l h11 (by omega)).mono ?_
      rintro e w12 ⟨ud, rfl, k12, id_⟩
      have hz := hz.old k12
      have o12 := o11.tr k12
      clear h11 k12 o11
      go_wp2_with fail
      refine (rsorted_any _ _ l id_.its (by omega)).mono ?_
      rintro e w13 ⟨rfl, k13⟩
      have hz := hz.old k13
      have o13 := o12.tr k13
      clear k13 o12 id_
      generalize sortedB l = sb at *
      have HS := Lib.hid (sorted_strict z2 r1.1)
      cases sb
      all_goals
        go_wp2_with fail
        refine (sorted_any _ _ z2 hz (by omega)).mono ?_
        rintro e w14 ⟨rfl, k14⟩
        rw [HS.out]
        have o14 := o13.tr k14
        clear hz k14 o13
        go_wp2
        go_ret
        exact ⟨rfl, o14⟩
    · have h5 := h3
      have o5 := o3
      clear h3 o3
      go_wp2_with fail
      refine (resolve_any _ _ l h5 (by omega)).mono ?_
      rintro e w6 ⟨ux, z, rfl, r1, r2, k6, hz⟩
      have hz := hz.its
      have h6 := h5.old k6
      have o6 := o5.tr k6
      clear h5 k6 o5
      obtain ⟨Az, cz, rfl, hcz⟩ := hz.form
      go_wp2_with fail
      refine (its_any _ _ z hz (by omega)).mono ?_
      rintro e w7 ⟨ua, rfl, k7, ia⟩
      have hz := hz.old k7
      have h7 := h6.old k7
      have o7 := o6.tr k7
      clear h6 k7 o6
      go_wp2_with fail
      refine (its_any _ _ l h7 (by omega)).mono ?_
      rintro e w8 ⟨ub, rfl, k8, ib⟩
      have hz := hz.old k8
      have h8 := h7.old k8
      have ia := ia.its.old k8
      have o8 := o7.tr k8
      clear h7 k8 o7
      go_wp2_with fail
      refine (rresolve_any _ _ l ib.its (by omega)).mono ?_
      rintro e w9 ⟨uc, z2, rfl, s1, s2, k9, ic⟩
      have hzz := s1.uniq r1
      subst hzz
      have hz := hz.old k9
      have h9 := h8.old k9
      have ia := ia.old k9
      have o9 := o8.tr k9
      clear h8 k9 o8 ib
      go_wp2_with fail
      refine (rsameL_any _ _ _ z2 ia ic.its (by omega)).mono ?_
      rintro e w10 ⟨rfl, k10⟩
      have hz := hz.old k10
      have h10 := h9.old k10
      have o10 := o9.tr k10
      clear h9 k10 o9 ia ic
      go_wp2_with fail
      refine (sorted_any _ _ l h10 (by omega)).mono ?_
      rintro e w11 ⟨rfl, k11⟩
      have hz := hz.old k11
      have h11 := h10.old k11
      have o11 := o10.tr k11
      clear h10 k11 o10
      go_wp2_with fail
      refine (its_any _ _ l h11 (by omega)).mono ?_
      rintro e w12 ⟨ud, rfl, k12, id_⟩
      have hz := hz.old k12
      have o12 := o11.tr k12
      clear h11 k12 o11
      go_wp2_with fail
      refine (rsorted_any _ _ l id_.its (by omega)).mono ?_
      rintro e w13 ⟨rfl, k13⟩
      have hz := hz.old k13
      have o13 := o12.tr k13
      clear k13 o12 id_
      generalize sortedB l = sb at *
      have HS := Lib.hid (sorted_strict z2 r1.1)
      cases sb
      all_goals
        go_wp2_with fail
        refine (sorted_any _ _ z2 hz (by omega)).mono ?_
        rintro e w14 ⟨rfl, k14⟩
        rw [HS.out]
        have o14 := o13.tr k14
        clear hz k14 o13
        go_wp2
        go_ret
        exact ⟨rfl, o14⟩

set_option maxRecDepth 100000 in
theorem runsResolves_lifted (os : Os) (started : os.Started) (H : Type) (enc : TypeId × Value → H) :
    ReturnsInHanded {} Try.checked os 4 .any (Rows.runsResolvesSpec.pre6 enc Try.prog Try.f4 Rows.runsResolvesRow.domain false) (Rows.runsResolvesSpec.post enc Try.prog Try.f4 false true false false) := by
  refine returnsInHanded_of_change_sized (C := Try.checked) Try.own started (by kernel_rfl) Try.func4
    (ChangeSpec.witness6 (enc := enc) (C := Try.checked) false ⟨#[], #[.slice none 0 0, .int .u8 0, .int .u8 0], []⟩ 8 (by kernel_rfl) (by kernel_rfl) (by kernel_rfl) (by kernel_rfl)) ?_
  intro W base args ds gs before hval0 hW hcnd hsz0 _
  have hval : ∀ (j : Nat) t v, Try.f4.params[j]? = some t → args[j]? = some v → Value.okWide Try.prog W .any base t v := hval0
  have hW' := hW
  obtain ⟨p, q, hA0, hV, rfl, hfz, hnd⟩ := hW
  have hA : DataW.TrodAll enc Try.prog W 0 (fun _ => true) true Try.f4.params.toList args.toList ds p := hA0
  have hsz : (DataW.weightsEach Try.prog (Try.f4.params.toList ++ Rows.runsResolvesSpec.plain.varTypes Try.prog) (ds ++ gs)).all (· ≤ reachBytes) = true := hsz0
  rw [Try.params4] at hA hval hsz
  obtain ⟨v0, v1, v2, d0, d1, d2, p0, p1, p2, rfl, rfl, rfl, h0, h1, h2⟩ := trodAll_three hA
  obtain ⟨rfl, rfl⟩ := trodVars_none hV
  have hlt : ∀ x ∈ p0 ++ (p1 ++ (p2)), x.block < W.heap.size := fun x hx => hW'.lt x (by simpa using hx)
  have k0 := h0
  have k1 := h1
  have k2 := h2
  obtain ⟨a0, o0, m0, x0⟩ := open_its (hval 0 35 v0 rfl rfl) h0
  have b0 : a0.length * 72 ≤ 140737488355328 := by
    rcases x0 with rfl | ⟨es, sp, rfl, hes⟩
    · simp
    · have := sized_slice hsz (j := 0) (t := 35) (e := 45) rfl rfl Try.underlying35
      rw [show Try.prog.bytesOf 45 = 80 by kernel_rfl] at this
      unfold reachBytes at this
      omega
  obtain ⟨a1, rfl, o1⟩ := open_u8 (hval 1 5 v1 rfl rfl) h1
  obtain ⟨a2, rfl, o2⟩ := open_u8 (hval 2 5 v2 rfl rfl) h2
  clear hA0 hval0 hsz0
  refine (law_resolves _ a0 a1 a2 W o0 b0 o1 o2).mono fun e W' ⟨he, hb⟩ => ?_
  subst he
  refine ⟨_, rfl, _, _, _, [], p0 ++ (p1 ++ (p2)), [], hW', trodAll_mk1 (shut_bool Try.underlying4 _), ?_, rfl, hb.frame _, fun h => by cases h⟩
  have r0 := Below.trod Try.laidOut (by kernel_rfl) (of_decide_eq_true (by kernel_rfl)) k0 hb (fun x hx => hlt x (by simp [hx]))
  have r1 := Below.trod Try.laidOut (by kernel_rfl) (of_decide_eq_true (by kernel_rfl)) k1 hb (fun x hx => hlt x (by simp [hx]))
  have r2 := Below.trod Try.laidOut (by kernel_rfl) (of_decide_eq_true (by kernel_rfl)) k2 hb (fun x hx => hlt x (by simp [hx]))
  exact trodAll_mk3 r0 r1 r2

theorem runsResolves_holds : Rows.RunsResolvesSaid :=
  OpenClaim.holds_of_wide 4 Try.f4 rfl rfl rfl rfl rfl rfl rfl ⟨rfl, rfl, rfl, rfl, rfl⟩ rfl rfl rfl rfl rfl (by kernel_rfl) Try.func4 (by kernel_rfl)
    (of_decide_eq_true (by kernel_rfl)) (by unfold Func.isWrapper; first | (rw [if_pos (by decide +kernel)]; kernel_rfl) | (rw [if_neg (by decide +kernel)]; exact ⟨rfl, rfl⟩))
    (fun os started H enc _ => runsResolves_lifted os started H enc)
#print axioms runsResolves_holds
end Go.Proofs.Ytkejcgfablnpjaa
