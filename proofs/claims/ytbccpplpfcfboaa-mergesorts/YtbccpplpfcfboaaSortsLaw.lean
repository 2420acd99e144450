/-
  MergeSorts: whatever list of cells, and whatever two numbers, come in, the law answers true, and leaves all as it was. No conditions.
-/
import Derived.Test.YtbccpplpfcfboaaRLft
namespace Go.Proofs.Ytbccpplpfcfboaa
open Go.ChangeShapes Go.WideShapes Go.ChangeAt Go.RowKit Go.Joins Go.Deep

/-- Both Sorts answer the same. -/
theorem both_sort (W : World) (v : Value) (l : List Cel) (h : Cels W v l) (hl : l.length ≤ 29000) (a b : Int) (ha : a ≤ 9223372036854775807) (hb : b ≤ 9223372036854775807) :
    Calls Try.prog 10 #[v, .int .i64 a, .int .i64 b] W fun e W' => ∃ (u : Value) (p er : Int) (cs : List Cel), e = .returned (.tuple #[u, .int .i64 p, .int .i64 er]) ∧ cs.length ≤ 30000 ∧ Cels W' u cs ∧ Old W W' ∧
      ∀ W2, Old W' W2 → Calls Try.prog 11 #[v, .int .i64 a, .int .i64 b] W2 fun e W3 => ∃ u2, e = .returned (.tuple #[u2, .int .i64 p, .int .i64 er]) ∧ Cels W3 u2 cs ∧ Old W2 W3 := by
  by_cases h1 : a < 1
  · refine (sort_small v a b h1 W).mono ?_
    rintro e W' ⟨rfl, o⟩
    refine ⟨_, 0, 1, [], rfl, by simp, .inl ⟨rfl, rfl⟩, o, fun W2 _ => ?_⟩
    refine (rsort_small v a b h1 W2).mono ?_
    rintro e W3 ⟨rfl, o3⟩
    exact ⟨_, rfl, .inl ⟨rfl, rfl⟩, o3⟩
  · obtain ⟨k, rfl⟩ := Int.eq_ofNat_of_zero_le (show 0 ≤ a by omega)
    by_cases h2 : b < 2
    · refine (sort_narrow W v l h hl k b (by omega) (by omega) h2).mono ?_
      rintro e W' ⟨u, rfl, hc, o⟩
      refine ⟨u, 0, 1, [], rfl, by simp, hc, o, fun W2 o2 => ?_⟩
      refine (rsort_narrow W2 v l ((h.old o).old o2) hl k b (by omega) (by omega) h2).mono ?_
      rintro e W3 ⟨u2, rfl, hc2, o3⟩
      exact ⟨u2, rfl, hc2, o3⟩
    · obtain ⟨m, rfl⟩ := Int.eq_ofNat_of_zero_le (show 0 ≤ b by omega)
      refine (sort_any W v l h hl k m (by omega) (by omega) (by omega) (by omega)).mono ?_
      rintro e W' ⟨u, out, p, rfl, hs, hc, o⟩
      have hlen : out.length ≤ 30000 := by
        have h3 := (hs.res (by omega) (by omega)).len_le
        rw [itemsOf_len] at h3
        omega
      refine ⟨u, p, 0, out.map (·.c), rfl, by simpa using hlen, hc, o, fun W2 o2 => ?_⟩
      refine (rsort_any W2 v l ((h.old o).old o2) hl k m (by omega) (by omega) (by omega) (by omega)).mono ?_
      rintro e W3 ⟨u2, out2, p2, rfl, hs2, hc2, o3⟩
      obtain ⟨rfl, rfl⟩ := hs.uniq hs2
      exact ⟨u2, rfl, hc2, o3⟩

set_option maxRecDepth 100000 in
set_option maxHeartbeats 8000000 in
theorem law_sorts (v : Value) (l : List Cel) (a b : Int) (w : World) (h : Cels w v l) (hml : l.length ≤ maxLen) (ha : a ≤ 9223372036854775807) (hb : b ≤ 9223372036854775807) :
    Calls Try.prog 3 #[v, .int .i64 a, .int .i64 b] w fun e w' => e = .returned (.bool true) ∧ Old w w' := by
  obtain ⟨A0, cap0, rfl, hc0⟩ := h.form
  go_enter Try.func3, Try.ntmps3
  go_wp2_with fail
  refine (bounded_any _ _ _ h hml).mono ?_
  rintro e w1' ⟨rfl, rfl⟩
  cases hbd : boundedB l with
  | false =>
    go_wp2_with fail
    refine (shown_any _).mono ?_
    rintro e w2 ⟨rfl, o2⟩
    go_wp2
    go_ret
    exact ⟨rfl, o2⟩
  | true =>
    have hl2 : l.length ≤ 80 := bounded_len hbd
    clear hbd hml
    go_wp2_with fail
    refine (shown_any _).mono ?_
    rintro e w2 ⟨rfl, o2⟩
    have C := both_sort w2 (.slice A0 l.length cap0) l (h.old o2) (by omega) a b ha hb
    clear h
    go_wp2_with fail
    refine C.mono ?_
    clear C
    rintro e w3 ⟨u, p, er, cs, rfl, hcl, hc, o3, HR⟩
    have C := HR w3 (Old.re _)
    have HC := Lib.hid hc
    obtain ⟨A1, c1, rfl, -⟩ := hc.form
    clear HR hc
    go_wp2_with fail
    refine C.mono ?_
    clear C
    rintro e w4 ⟨u2, rfl, hc2, o4⟩
    have C := sameC_any w4 _ u2 cs (HC.out.old o4) hc2 (by omega)
    obtain ⟨A2, c2, rfl, -⟩ := hc2.form
    clear hc2 HC
    go_wp2_with fail
    refine C.mono ?_
    clear C
    rintro e w5 ⟨rfl, o5⟩
    go_wp2
    go_ret
    exact ⟨rfl, ((o2.tr o3).tr o4).tr o5⟩

set_option maxRecDepth 100000 in
theorem mergeSorts_lifted (os : Os) (started : os.Started) (H : Type) (enc : TypeId × Value → H) :
    ReturnsInHanded {} Try.checked os 3 .any (Rows.mergeSortsSpec.pre6 enc Try.prog Try.f3 Rows.mergeSortsRow.domain false) (Rows.mergeSortsSpec.post enc Try.prog Try.f3 false true false false) := by
  refine returnsInHanded_of_change_sized (C := Try.checked) Try.own started (by kernel_rfl) Try.func3
    (ChangeSpec.witness6 (enc := enc) (C := Try.checked) false ⟨#[], #[.slice none 0 0, .int .i64 0, .int .i64 0], []⟩ 8 (by kernel_rfl) (by kernel_rfl) (by kernel_rfl) (by kernel_rfl)) ?_
  intro W base args ds gs before hval0 hW hcnd hsz0 _
  have hval : ∀ (j : Nat) t v, Try.f3.params[j]? = some t → args[j]? = some v → Value.okWide Try.prog W .any base t v := hval0
  have hW' := hW
  obtain ⟨p, q, hA0, hV, rfl, hfz, hnd⟩ := hW
  have hA : DataW.TrodAll enc Try.prog W 0 (fun _ => true) true Try.f3.params.toList args.toList ds p := hA0
  have hsz : (DataW.weightsEach Try.prog (Try.f3.params.toList ++ Rows.mergeSortsSpec.plain.varTypes Try.prog) (ds ++ gs)).all (· ≤ reachBytes) = true := hsz0
  rw [Try.params3] at hA hval hsz
  obtain ⟨v0, v1, v2, d0, d1, d2, p0, p1, p2, rfl, rfl, rfl, h0, h1, h2⟩ := trodAll_three hA
  obtain ⟨rfl, rfl⟩ := trodVars_none hV
  have hlt : ∀ x ∈ p0 ++ (p1 ++ (p2)), x.block < W.heap.size := fun x hx => hW'.lt x (by simpa using hx)
  have k0 := h0
  have k1 := h1
  have k2 := h2
  obtain ⟨a0, o0, m0, -⟩ := open_cels (hval 0 22 v0 rfl rfl) h0
  obtain ⟨a1, rfl, o1⟩ := open_i64 (hval 1 3 v1 rfl rfl) h1
  obtain ⟨a2, rfl, o2⟩ := open_i64 (hval 2 3 v2 rfl rfl) h2
  clear hA0 hval0 hsz0
  refine (law_sorts v0 a0 a1 a2 W o0 m0 o1 o2).mono fun e W' ⟨he, hb⟩ => ?_
  subst he
  refine ⟨_, rfl, _, _, _, [], p0 ++ (p1 ++ (p2)), [], hW', trodAll_mk1 (shut_bool Try.underlying4 _), ?_, rfl, hb.frame _, fun h => by cases h⟩
  have r0 := Below.trod Try.laidOut (by kernel_rfl) (of_decide_eq_true (by kernel_rfl)) k0 hb (fun x hx => hlt x (by simp [hx]))
  have r1 := Below.trod Try.laidOut (by kernel_rfl) (of_decide_eq_true (by kernel_rfl)) k1 hb (fun x hx => hlt x (by simp [hx]))
  have r2 := Below.trod Try.laidOut (by kernel_rfl) (of_decide_eq_true (by kernel_rfl)) k2 hb (fun x hx => hlt x (by simp [hx]))
  exact trodAll_mk3 r0 r1 r2

theorem mergeSorts_holds : Rows.MergeSortsSaid :=
  OpenClaim.holds_of_wide 3 Try.f3 rfl rfl rfl rfl rfl rfl rfl ⟨rfl, rfl, rfl, rfl, rfl⟩ rfl rfl rfl rfl rfl (by kernel_rfl) Try.func3 (by kernel_rfl)
    (of_decide_eq_true (by kernel_rfl)) (by unfold Func.isWrapper; first | (rw [if_pos (by decide +kernel)]; kernel_rfl) | (rw [if_neg (by decide +kernel)]; exact ⟨rfl, rfl⟩))
    (fun os started H enc _ => mergeSorts_lifted os started H enc)
#print axioms mergeSorts_holds
end Go.Proofs.Ytbccpplpfcfboaa
