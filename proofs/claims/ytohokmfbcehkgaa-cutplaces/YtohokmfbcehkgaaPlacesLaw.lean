/-
  CutPlaces: whatever borders and row come in, the law answers true, and leaves all as it was. No conditions.
-/
import Derived.Test.YtohokmfbcehkgaaCLft
namespace Go.Proofs.Ytohokmfbcehkgaa
open Go.ChangeShapes Go.WideShapes Go.ChangeAt Go.RowKit Go.Joins Go.Deep

/-- What Place tells among texts in order. -/
theorem place_at {bs : List (List UInt8)} (h : Sorted bs) (r : List UInt8) : (∀ (i : Nat) (b : List UInt8), i < place bs r → bs[i]? = some b → leT b r = true) ∧ (∀ (i : Nat) (b : List UInt8), place bs r ≤ i → bs[i]? = some b → leT b r = false) := by
  -- the first place that is above
  obtain ⟨n, hn, h1, h2⟩ : ∃ n, n ≤ bs.length ∧ (∀ (i : Nat) (b : List UInt8), i < n → bs[i]? = some b → leT b r = true) ∧ (∀ (i : Nat) (b : List UInt8), n ≤ i → bs[i]? = some b → leT b r = false) := by
    have key : ∀ k, k ≤ bs.length → (∃ n, n ≤ k ∧ (∀ (i : Nat) (b : List UInt8), i < n → bs[i]? = some b → leT b r = true) ∧ (∀ (i : Nat) (b : List UInt8), n ≤ i → i < k → bs[i]? = some b → leT b r = false)) := by
      intro k
      induction k with
      | zero => exact fun _ => ⟨0, Nat.le_refl _, fun i b hi => by omega, fun i b _ hi => by omega⟩
      | succ k ih =>
        intro hk
        obtain ⟨n, g1, g2, g3⟩ := ih (by omega)
        have hx := List.getElem?_eq_getElem (show k < bs.length by omega)
        cases hb : leT bs[k] r with
        | true =>
          -- then all ahead are, too
          refine ⟨k + 1, Nat.le_refl _, fun i b hi hib => ?_, fun i b hi hik => by omega⟩
          exact leT_trans (h i k b bs[k] (by omega) hib hx) hb
        | false =>
          refine ⟨n, by omega, g2, fun i b hi hik hib => ?_⟩
          rcases Nat.lt_or_ge i k with g | g
          · exact g3 i b hi g hib
          · have : i = k := by omega
            subst this
            rw [hx] at hib
            cases hib
            exact hb
    obtain ⟨n, g1, g2, g3⟩ := key bs.length (Nat.le_refl _)
    exact ⟨n, g1, g2, fun i b hi hib => g3 i b hi (List.getElem?_eq_some_iff.1 hib).1 hib⟩
  rw [place_split hn h1 h2]
  exact ⟨h1, h2⟩

set_option maxRecDepth 100000 in
set_option maxHeartbeats 8000000 in
theorem law_places (A2 : Option Addr) (cap2 : Nat) (bs : List (List UInt8)) (r : List UInt8) (w : World) (hS : Strs w A2 cap2 bs) (hcap : cap2 ≤ maxLen) (hr : r.length ≤ maxLen) :
    Calls Try.prog 7 #[.slice A2 bs.length cap2, .string (B r)] w fun e w' => e = .returned (.bool true) ∧ Old w w' := by
  have CB := Lib.hid (bounded_any w (.slice none 0 0) [] (.inl ⟨rfl, rfl⟩) (by simp) A2 cap2 bs hS hcap)
  have hr' : r.length ≤ 9223372036854775807 := by unfold maxLen at hr; omega
  have HS := Lib.hid hS
  clear hS hcap
  go_enter Try.func7, Try.ntmps7
  go_wp2_with fail
  refine CB.out.mono ?_
  rintro e w1' ⟨rfl, hw1⟩
  have hw1' := hw1.symm
  subst hw1'
  clear hw1 CB
  cases hbd : boundedB [] bs with
  | false =>
    go_wp2_with fail
    refine (shown_any _).mono ?_
    rintro e w2 ⟨rfl, o2⟩
    go_wp2
    go_ret
    exact ⟨rfl, o2⟩
  | true =>
    obtain ⟨-, hbs⟩ := bounded_len hbd
    clear hbd
    by_cases hr1 : r.length ≤ 100
    · have CO := borders_any w A2 cap2 bs HS.out (by omega)
      go_wp2_with fail
      refine CO.mono ?_
      clear CO
      rintro e w2 ⟨rfl, o2⟩
      cases hbo : bords bs with
      | false =>
        go_wp2_with fail
        refine (shown_any _).mono ?_
        rintro e w3 ⟨rfl, o3⟩
        have o4 := o2.tr o3
        go_wp2
        go_ret
        exact ⟨rfl, o4⟩
      | true =>
        have hpa := place_at (bords_sorted hbo) r
        have hpl := place_le bs r
        go_wp2_with fail
        refine (shown_any _).mono ?_
        rintro e w3 ⟨rfl, o3⟩
        have o4 := o2.tr o3
        have CP := place_any w3 A2 cap2 bs r (by omega) (HS.out.old o4)
        go_wp2_with fail
        refine CP.mono ?_
        clear CP
        rintro e w4 ⟨rfl, o5⟩
        have o6 := o4.tr o5
        have HPA := Lib.hid hpa
        clear hpa hbo
        generalize place bs r = p at *
        have i1 : (0 : Int) ≤ (p : Int) := by omega
        have i2 : (p : Int) ≤ (bs.length : Int) := by omega
        by_cases hp0 : p = 0
        · subst hp0
          by_cases hb0 : bs.length = 0
          · rw [hb0] at *
            go_wp2
            go_ret
            exact ⟨rfl, o6⟩
          · obtain ⟨t, HX⟩ : ∃ t, Hid (bs[0]? = some t) := ⟨bs[0], Lib.hid (List.getElem?_eq_getElem (by omega))⟩
            obtain ⟨-, b, off, rfl, hx⟩ := (HS.out.old o6).2 0 t HX.out
            rw [Nat.add_zero] at hx
            have h2 := HPA.out.2 0 t (Nat.le_refl _) HX.out
            have h3 : Op.bytesLess r t = true := by
              rw [not_less] at h2
              simpa using h2
            have i3 : ¬ (0 : Int) = (bs.length : Int) := by omega
            have i4 : (0 : Int) < (bs.length : Int) := by omega
            clear HX h2
            go_wp2
            go_ret
            exact ⟨rfl, o6⟩
        · obtain ⟨q, rfl⟩ : ∃ q, p = q + 1 := ⟨p - 1, by omega⟩
          obtain ⟨s, HY⟩ : ∃ s, Hid (bs[q]? = some s) := ⟨bs[q], Lib.hid (List.getElem?_eq_getElem (by omega))⟩
          obtain ⟨-, b, off, rfl, hy⟩ := (HS.out.old o6).2 q s HY.out
          have h1 := HPA.out.1 q s (by omega) HY.out
          unfold leT at h1
          have hw1 : IntKind.i64.wrap (((q + 1 : Nat) : Int) - 1) = (q : Int) := by rw [IntKind.wrap_i64]; omega
          have i5 : (q : Int) < (bs.length : Int) := by omega
          have i6 : (0 : Int) ≤ (q : Int) := by omega
          have i7 : ¬ ((q + 1 : Nat) : Int) = 0 := by omega
          by_cases hbl : q + 1 = bs.length
          · have i3 : (q : Int) + 1 = (bs.length : Int) := by omega
            have hy2 : w4.cell? ⟨b, off + (bs.length - 1), none⟩ = some (.string (B s)) := by rw [show bs.length - 1 = q by omega]; exact hy
            have i8 : ((bs.length : Int) == 0) = false := by rw [beq_eq_false_iff_ne]; omega
            have i9 : ¬ (bs.length : Int) = 0 := by omega
            have i10 : (0 : Int) ≤ (bs.length : Int) - 1 := by omega
            have i11 : IntKind.i64.wrap ((bs.length : Int) - 1) = (bs.length : Int) - 1 := by rw [IntKind.wrap_i64]; omega
            have i12 : ((bs.length : Int) - 1).toNat = bs.length - 1 := by omega
            clear HY hy i5 i6 i7 hw1
            go_wp2
            go_ret
            exact ⟨rfl, o6⟩
          · obtain ⟨t, HX⟩ : ∃ t, Hid (bs[q + 1]? = some t) := ⟨bs[q + 1], Lib.hid (List.getElem?_eq_getElem (by omega))⟩
            obtain ⟨-, b', off', he, hx⟩ := (HS.out.old o6).2 (q + 1) t HX.out
            simp only [Option.some.injEq, Addr.mk.injEq, and_true] at he
            obtain ⟨rfl, rfl⟩ := he
            have h2 := HPA.out.2 (q + 1) t (Nat.le_refl _) HX.out
            have h3 : Op.bytesLess r t = true := by
              rw [not_less] at h2
              simpa using h2
            have i3 : ¬ (q : Int) + 1 = (bs.length : Int) := by omega
            have i4 : (q : Int) + 1 < (bs.length : Int) := by omega
            clear HX HY h2
            go_wp2
            go_ret
            exact ⟨rfl, o6⟩
    · go_wp2_with fail
      refine (shown_any _).mono ?_
      rintro e w2 ⟨rfl, o2⟩
      go_wp2
      go_ret
      exact ⟨rfl, o2⟩

set_option maxRecDepth 100000 in
theorem cutPlaces_lifted (os : Os) (started : os.Started) (H : Type) (enc : TypeId × Value → H) :
    ReturnsInHanded {} Try.checked os 7 .any (Rows.cutPlacesSpec.pre6 enc Try.prog Try.f7 Rows.cutPlacesRow.domain false) (Rows.cutPlacesSpec.post enc Try.prog Try.f7 false true false false) := by
  refine returnsInHanded_of_change_sized (C := Try.checked) Try.own started (by kernel_rfl) Try.func7
    (ChangeSpec.witness6 (enc := enc) (C := Try.checked) false ⟨#[], #[.slice none 0 0, .string ByteArray.empty], []⟩ 8 (by kernel_rfl) (by kernel_rfl) (by kernel_rfl) (by kernel_rfl)) ?_
  intro W base args ds gs before hval0 hW hcnd hsz0 _
  have hval : ∀ (j : Nat) t v, Try.f7.params[j]? = some t → args[j]? = some v → Value.okWide Try.prog W .any base t v := hval0
  have hW' := hW
  obtain ⟨p, q, hA0, hV, rfl, hfz, hnd⟩ := hW
  have hA : DataW.TrodAll enc Try.prog W 0 (fun _ => true) true Try.f7.params.toList args.toList ds p := hA0
  have hsz : (DataW.weightsEach Try.prog (Try.f7.params.toList ++ Rows.cutPlacesSpec.plain.varTypes Try.prog) (ds ++ gs)).all (· ≤ reachBytes) = true := hsz0
  rw [Try.params7] at hA hval hsz
  obtain ⟨v0, v1, d0, d1, p0, p1, rfl, rfl, rfl, h0, h1⟩ := trodAll_two hA
  obtain ⟨rfl, rfl⟩ := trodVars_none hV
  have hlt : ∀ x ∈ p0 ++ (p1), x.block < W.heap.size := fun x hx => hW'.lt x (by simpa using hx)
  have k0 := h0
  have k1 := h1
  obtain ⟨a0, A0, c0, rfl, o0, m0⟩ := open_strs (hval 0 23 v0 rfl rfl) h0 (fun x hx => hlt x (by simp [hx]))
  obtain ⟨a1, rfl, o1⟩ := open_str (hval 1 9 v1 rfl rfl) h1
  clear hA0 hval0 hsz0
  refine (law_places A0 c0 a0 a1 W o0 m0 o1).mono fun e W' ⟨he, hb⟩ => ?_
  subst he
  refine ⟨_, rfl, _, _, _, [], p0 ++ (p1), [], hW', trodAll_mk1 (shut_bool Try.underlying4 _), ?_, rfl, hb.frame _, fun h => by cases h⟩
  have r0 := Below.trod Try.laidOut (by kernel_rfl) (of_decide_eq_true (by kernel_rfl)) k0 hb (fun x hx => hlt x (by simp [hx]))
  have r1 := Below.trod Try.laidOut (by kernel_rfl) (of_decide_eq_true (by kernel_rfl)) k1 hb (fun x hx => hlt x (by simp [hx]))
  exact trodAll_mk2 r0 r1

theorem cutPlaces_holds : Rows.CutPlacesSaid :=
  OpenClaim.holds_of_wide 7 Try.f7 rfl rfl rfl rfl rfl rfl rfl ⟨rfl, rfl, rfl, rfl, rfl⟩ rfl rfl rfl rfl rfl (by kernel_rfl) Try.func7 (by kernel_rfl)
    (of_decide_eq_true (by kernel_rfl)) (by unfold Func.isWrapper; first | (rw [if_pos (by decide +kernel)]; kernel_rfl) | (rw [if_neg (by decide +kernel)]; exact ⟨rfl, rfl⟩))
    (fun os started H enc _ => cutPlaces_lifted os started H enc)
#print axioms cutPlaces_holds
end Go.Proofs.Ytohokmfbcehkgaa
