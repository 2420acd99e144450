/-
  RunsWhole: whatever list of cells, and whatever number, come in, the law answers true, and leaves all as it was. No conditions.
-/
import Derived.Test.YtkejcgfablnpjaaRLft
namespace Go.Proofs.Ytkejcgfablnpjaa
open Go.ChangeShapes Go.WideShapes Go.ChangeAt Go.RowKit Go.Joins Go.Deep

theorem part_take (l : List Itm) (m k : Nat) : l.take (k * m) ++ part l m k = l.take ((k + 1) * m) := by
  rw [part, Nat.add_mul, Nat.one_mul, List.take_add]
theorem whole_step {l all out : List Itm} {m k : Nat} (h : ∀ q, best all q = best (l.take (k * m)) q) (h2 : IsRes (part l m k) out) : ∀ q, best (all ++ out) q = best (l.take ((k + 1) * m)) q := by
  intro q
  rw [best_app, h, h2.2, ← part_take, best_app]
theorem whole_end {l : List Itm} {m : Nat} (hm : 1 ≤ m) : l.take (many l.length m * m) = l := by
  refine List.take_of_length_le ?_
  have h : ¬ many l.length m < many l.length m := by omega
  rw [many_lt hm] at h
  omega

set_option maxRecDepth 100000 in
set_option maxHeartbeats 8000000 in
theorem law_whole (v : Value) (l : List Cel) (n : Nat) (w : World) (h : Cels w v l) (hml : l.length ≤ maxLen) (hn : n < 256) :
    Calls Try.prog 5 #[v, .int .u8 n] w fun e w' => e = .returned (.bool true) ∧ Old w w' := by
  obtain ⟨A0, cap0, rfl, hc0⟩ := h.form
  obtain ⟨r, hr⟩ : ∃ r, r = n % 20 := ⟨_, rfl⟩
  have hr1 : (n : Int).tmod 20 = (r : Int) := by rw [hr]; rfl
  have hr2 : r < 20 := by omega
  clear hr
  go_enter Try.func5, Try.ntmps5
  go_wp2_with fail
  refine (bounded_any _ _ _ h hml).mono ?_
  rintro e w1 ⟨rfl, rfl⟩
  cases hb : boundedB l with
  | false =>
    go_wp2_with fail
    refine (shown_any _).mono ?_
    rintro e w2 ⟨rfl, o2⟩
    go_wp2
    go_ret
    exact ⟨rfl, o2⟩
  | true =>
    have hl2 : l.length ≤ 80 := bounded_len hb
    clear hb hml
    go_wp2_with fail
    refine (shown_any _).mono ?_
    rintro e w2 ⟨rfl, o2⟩
    have h2 := h.old o2
    have HC := Lib.hid (show ∀ W, Cels W (.slice A0 l.length cap0) l → Calls Try.prog 10 #[.slice A0 l.length cap0, .int .i64 (1 + (r : Int))] W fun e W' => ∃ u, e = .returned (.tuple #[u, .int .i64 0]) ∧ Made W' u (itemsOf l) (r + 1) ∧ Old W W' from fun W hW => by
      have := make_any W _ l hW (by omega) (r + 1) (by omega) (by omega)
      rwa [show ((r + 1 : Nat) : Int) = 1 + (r : Int) by omega] at this)
    clear h
    obtain ⟨K, hK⟩ : ∃ K, K = many (itemsOf l).length (r + 1) := ⟨_, rfl⟩
    have hq : ((l.length : Int) + (r : Int)).tdiv (1 + (r : Int)) = (K : Int) := by
      rw [hK, itemsOf_len]
      unfold many
      rw [show (l.length : Int) + (r : Int) = ((l.length + r : Nat) : Int) by omega, show (1 + (r : Int)) = ((r + 1 : Nat) : Int) by omega]
      rfl
    have hK80 : K ≤ 80 := by
      rw [hK, itemsOf_len]
      unfold many
      have : (l.length + (r + 1) - 1) / (r + 1) ≤ l.length := by
        rw [Nat.div_le_iff_le_mul_add_pred (by omega)]
        have : l.length * 1 ≤ l.length * (r + 1) := Nat.mul_le_mul_left _ (by omega)
        rw [Nat.mul_comm (r + 1)]
        omega
      omega
    have hne : ¬ (1 + (r : Int)) = 0 := by omega
    have HK := Lib.hid hK
    clear hK
    go_wp2_with fail
    refine (HC.out _ h2).mono ?_
    rintro e w3 ⟨u, rfl, hMd, o3⟩
    have h3 := h2.old o3
    have o4 := o2.tr o3
    clear h2 o2 o3 HC
    obtain ⟨base, vs, m1, m2, m3⟩ := hMd
    rw [← HK.out] at m1 m2
    obtain ⟨A1, c1, rfl⟩ := row_len m1
    have HM := Lib.hid (And.intro m1 (And.intro m2 m3))
    clear m1 m2 m3
    go_wp2_with fail
    have H3 := Lib.hid h3
    clear h3
    go_loopw [7, 8] (fun ov iv wr => ∃ (k : Nat) (all : List Itm), iv = .int .i64 k ∧ k ≤ K ∧ all.length ≤ 20 * k ∧ Old w1 wr ∧ Hid (Old w3 wr) ∧ Hid (OwnE 45 wr w3.heap.size ov all) ∧ Hid (∀ q, best all q = best ((itemsOf l).take (k * (r + 1))) q)) (fun _ iv _ => K - (intOf iv).toNat)
    case atStart => exact ⟨0, [], rfl, Nat.zero_le _, by simp, o4.al _, Lib.hid (old_alloc _ _), Lib.hid (OwnE.empty (new_bk _ _ _) (Nat.le_refl _)), Lib.hid (fun q => by simp)⟩
    case round =>
      obtain ⟨k, all, rfl, hk, hal, o1, HO, HW, HB⟩ := hrel
      by_cases hlt : k < K
      · obtain ⟨x, HX⟩ : ∃ x, Hid (vs[k]? = some x) := ⟨vs[k]'(by have := HM.out.2.1; omega), Lib.hid (List.getElem?_eq_getElem _)⟩
        obtain ⟨out, r1, r2, r3⟩ := HM.out.2.2 k x HX.out
        obtain ⟨g, cap, e1, q1⟩ := row_at HM.out.1 HX.out
        injection e1 with e1 _ e3
        subst e1 e3
        have q1 := cell_old q1 HO.out
        have hx := r3.its.old HO.out
        have hol : out.length ≤ 20 := by rw [part_len] at r2; omega
        have hol2 : out.length ≤ r + 1 := by rw [part_len] at r2; omega
        have HS := Lib.hid (sorted_strict out r1.1)
        have HB2 := Lib.hid (whole_step HB.out r1)
        obtain ⟨Ax, cx, rfl, hcx⟩ := hx.form
        have HXI := Lib.hid hx
        clear r1 r2 r3 hx HB HX
        go_wp2_with fail
        refine (sorted_any _ _ out HXI.out (by omega)).mono ?_
        rintro e w5 ⟨rfl, k5⟩
        rw [HS.out]
        have q1 := cell_old q1 k5
        have o5 := o1.tr k5
        have HO5 := Lib.hid (HO.out.tr k5)
        have HW5 := Lib.hid (HW.out.old k5)
        have HX5 := Lib.hid (HXI.out.old k5)
        clear k5 o1 HO HW HXI HS
        have hlo : (out.length : Int) ≤ 1 + (r : Int) := by omega
        go_wp2_with (at_builtin; refine wp_its rfl (.tmp 69) (.tmp 73) 35 45 Try.underlying35 Try.infoItem rfl (W0 := w3) HO5.out _ all out rfl HW5.out _ rfl HX5.out (by omega) ?_; intro v8 w8 n8 o8; refine Hid.out ?_)
        have o9 := o4.tr o8
        have HO8 := Lib.hid o8
        have HW8 := Lib.hid n8
        clear q1 n8 o8 o5 HO5 HW5 HX5
        refine Lib.hid ?_
        go_wp2
        go_roundw
        case rel => exact ⟨k + 1, all ++ out, by go_num, by omega, by simp; omega, o9, HO8, HW8, HB2⟩
        case measure => simp [intOf]; omega
      · obtain rfl : k = K := by omega
        have HE := Lib.hid (show ∀ q, best all q = best (itemsOf l) q from fun q => by
          rw [HB.out q]
          rw [HK.out, whole_end (by omega)])
        have hI := HW.out.its
        have h5 := H3.out.old HO.out
        have hil := itemsOf_len l
        clear HB HW HO H3 HM HK o4
        go_wp2_with fail
        refine (resolve_any _ _ all hI (by omega)).mono ?_
        rintro e w6 ⟨ux, z, rfl, r1, r2, k6, hz⟩
        have HR := Lib.hid (show IsRes (itemsOf l) z from ⟨r1.1, fun q => (r1.2 q).trans (HE.out q)⟩)
        have h6 := h5.old k6
        have o6 := o1.tr k6
        clear h5 k6 o1 hI r1 HE
        go_wp2_with fail
        refine (its_any _ _ z hz.its (by omega)).mono ?_
        rintro e w7 ⟨ua, rfl, k7, ia⟩
        have h7 := h6.old k7
        have o7 := o6.tr k7
        clear h6 k7 o6 hz
        go_wp2_with fail
        refine (items_any _ _ l h7 (by omega)).mono ?_
        rintro e w8 ⟨ub, rfl, k8, ib⟩
        have ia := ia.its.old k8
        have o8 := o7.tr k8
        clear h7 k8 o7
        go_wp2_with fail
        refine (resolve_any _ _ (itemsOf l) ib.its (by omega)).mono ?_
        rintro e w9 ⟨uc, z2, rfl, s1, s2, k9, hz2⟩
        have hzz := s1.uniq HR.out
        subst hzz
        have ia := ia.old k9
        have o9 := o8.tr k9
        clear k9 o8 ib s1 HR
        go_wp2_with fail
        refine (its_any _ _ z2 hz2.its (by omega)).mono ?_
        rintro e w10 ⟨ud, rfl, k10, id_⟩
        have ia := ia.old k10
        have o10 := o9.tr k10
        clear k10 o9 hz2
        go_wp2_with fail
        refine (rsameL_any _ _ _ z2 ia id_.its (by omega)).mono ?_
        rintro e w11 ⟨rfl, k11⟩
        have o11 := o10.tr k11
        clear k11 o10 ia id_
        go_wp2
        go_ret
        exact ⟨rfl, o11⟩

set_option maxRecDepth 100000 in
theorem runsWhole_lifted (os : Os) (started : os.Started) (H : Type) (enc : TypeId × Value → H) :
    ReturnsInHanded {} Try.checked os 5 .any (Rows.runsWholeSpec.pre6 enc Try.prog Try.f5 Rows.runsWholeRow.domain false) (Rows.runsWholeSpec.post enc Try.prog Try.f5 false true false false) := by
  refine returnsInHanded_of_change_sized (C := Try.checked) Try.own started (by kernel_rfl) Try.func5
    (ChangeSpec.witness6 (enc := enc) (C := Try.checked) false ⟨#[], #[.slice none 0 0, .int .u8 0], []⟩ 8 (by kernel_rfl) (by kernel_rfl) (by kernel_rfl) (by kernel_rfl)) ?_
  intro W base args ds gs before hval0 hW hcnd hsz0 _
  have hval : ∀ (j : Nat) t v, Try.f5.params[j]? = some t → args[j]? = some v → Value.okWide Try.prog W .any base t v := hval0
  have hW' := hW
  obtain ⟨p, q, hA0, hV, rfl, hfz, hnd⟩ := hW
  have hA : DataW.TrodAll enc Try.prog W 0 (fun _ => true) true Try.f5.params.toList args.toList ds p := hA0
  have hsz : (DataW.weightsEach Try.prog (Try.f5.params.toList ++ Rows.runsWholeSpec.plain.varTypes Try.prog) (ds ++ gs)).all (· ≤ reachBytes) = true := hsz0
  rw [Try.params5] at hA hval hsz
  obtain ⟨v0, v1, d0, d1, p0, p1, rfl, rfl, rfl, h0, h1⟩ := trodAll_two hA
  obtain ⟨rfl, rfl⟩ := trodVars_none hV
  have hlt : ∀ x ∈ p0 ++ (p1), x.block < W.heap.size := fun x hx => hW'.lt x (by simpa using hx)
  have k0 := h0
  have k1 := h1
  obtain ⟨a0, o0, m0, -⟩ := open_cels (hval 0 22 v0 rfl rfl) h0
  obtain ⟨a1, rfl, o1⟩ := open_u8 (hval 1 5 v1 rfl rfl) h1
  clear hA0 hval0 hsz0
  refine (law_whole _ a0 a1 W o0 m0 o1).mono fun e W' ⟨he, hb⟩ => ?_
  subst he
  refine ⟨_, rfl, _, _, _, [], p0 ++ (p1), [], hW', trodAll_mk1 (shut_bool Try.underlying4 _), ?_, rfl, hb.frame _, fun h => by cases h⟩
  have r0 := Below.trod Try.laidOut (by kernel_rfl) (of_decide_eq_true (by kernel_rfl)) k0 hb (fun x hx => hlt x (by simp [hx]))
  have r1 := Below.trod Try.laidOut (by kernel_rfl) (of_decide_eq_true (by kernel_rfl)) k1 hb (fun x hx => hlt x (by simp [hx]))
  exact trodAll_mk2 r0 r1

theorem runsWhole_holds : Rows.RunsWholeSaid :=
  OpenClaim.holds_of_wide 5 Try.f5 rfl rfl rfl rfl rfl rfl rfl ⟨rfl, rfl, rfl, rfl, rfl⟩ rfl rfl rfl rfl rfl (by kernel_rfl) Try.func5 (by kernel_rfl)
    (of_decide_eq_true (by kernel_rfl)) (by unfold Func.isWrapper; first | (rw [if_pos (by decide +kernel)]; kernel_rfl) | (rw [if_neg (by decide +kernel)]; exact ⟨rfl, rfl⟩))
    (fun os started H enc _ => runsWhole_lifted os started H enc)
#print axioms runsWhole_holds
end Go.Proofs.Ytkejcgfablnpjaa
