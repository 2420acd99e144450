/-
  CellApart: whatever two cells come in, the law answers true, and leaves all as it was. No conditions.
-/
import Derived.Test.YthdpiagnjakjiaaApartNo
namespace Go.Proofs.Ythdpiagnjakjiaa
open Go.ChangeShapes Go.WideShapes Go.ChangeAt Go.RowKit Go.Joins Go.Deep

set_option maxRecDepth 100000 in
set_option maxHeartbeats 8000000 in
theorem law_apart_yes (a b : Cel) (ha : a.ok) (hb : b.ok) (E Q : Bool) (hE : eqB a b = E) (hS : sameB a b = true) (hQ : (a.seq == b.seq) = Q) (hX : E = true → Q = true) (w : World) :
    Calls Try.prog 9 #[cv a, cv b] w fun e w' => e = .returned (.bool true) ∧ Old w w' := by
  go_enter Try.func9, Try.ntmps9
  have f0 := F2.new w a b
  go_wp2_with fail
  refine (bounded_any a _).mono ?_
  rintro r w1 ⟨rfl, h1⟩
  have f1 := f0.old h1
  clear f0 h1
  cases hq1 : boundedB a
  · go_wp2_with fail
    refine (shown_any _).mono ?_
    rintro r w2 ⟨rfl, h2⟩
    go_wp2
    go_ret
    exact ⟨rfl, f1.od.tr h2⟩
  obtain ⟨a0, a1, a2, a3, a4, a5⟩ := f1.bb.six
  go_wp2_with fail
  refine (bounded_any b _).mono ?_
  rintro r w2 ⟨rfl, h2⟩
  have f2 := f1.old h2
  clear f1 h2 a0 a1 a2 a3 a4 a5
  cases hq2 : boundedB b
  · go_wp2_with fail
    refine (shown_any _).mono ?_
    rintro r w3 ⟨rfl, h3⟩
    go_wp2
    go_ret
    exact ⟨rfl, f2.od.tr h3⟩
  obtain ⟨a0, a1, a2, a3, a4, a5⟩ := f2.ba.six
  go_wp2_with fail
  refine (may_any a _).mono ?_
  rintro r w3 ⟨rfl, h3⟩
  have f3 := f2.old h3
  clear f2 h3 a0 a1 a2 a3 a4 a5
  cases hq3 : mayB a
  · go_wp2_with fail
    refine (shown_any _).mono ?_
    rintro r w4 ⟨rfl, h4⟩
    go_wp2
    go_ret
    exact ⟨rfl, f3.od.tr h4⟩
  obtain ⟨a0, a1, a2, a3, a4, a5⟩ := f3.bb.six
  go_wp2_with fail
  refine (may_any b _).mono ?_
  rintro r w4 ⟨rfl, h4⟩
  have f4 := f3.old h4
  clear f3 h4 a0 a1 a2 a3 a4 a5
  cases hq4 : mayB b
  · go_wp2_with fail
    refine (shown_any _).mono ?_
    rintro r w5 ⟨rfl, h5⟩
    go_wp2
    go_ret
    exact ⟨rfl, f4.od.tr h5⟩
  go_wp2_with fail
  refine (shown_any _).mono ?_
  rintro r w5 ⟨rfl, h5⟩
  have f5 := f4.old h5
  clear f4 h5
  obtain ⟨a0, a1, a2, a3, a4, a5⟩ := f5.ba.six
  go_wp2_with fail
  refine (encode_yes a _ hq3 ha).mono ?_
  rintro r w6 ⟨rfl, h6⟩
  have f6 := f5.old h6
  clear f5 h6 a0 a1 a2 a3 a4 a5
  obtain ⟨a0, a1, a2, a3, a4, a5⟩ := f6.bb.six
  go_wp2_with fail
  refine (encode_yes b _ hq4 hb).mono ?_
  rintro r w7 ⟨rfl, h7⟩
  have f7 := f6.old h7
  clear f6 h7 a0 a1 a2 a3 a4 a5
  have he := fun W => eqlCell a b W
  have hn := enc_eq a b hq3 hq4 ha hb
  have hk := key_same a b ha hb
  rw [hE] at he hn
  rw [hS, hQ, Bool.true_and] at hk
  have hQ2 : ((a.seq : Int) == (b.seq : Int)) = Q := by
    rw [← hQ, Bool.eq_iff_iff, beq_iff_eq, beq_iff_eq]; omega
  have c1 := Lib.hid (fun W => key_yes a W hq3 ha)
  have c2 := Lib.hid (fun W => key_yes b W hq4 hb)
  have c3 := Lib.hid (same_at a b true hS)
  clear ha hb hE hS hQ hq3 hq4 hq1 hq2
  generalize enc a = x at *
  generalize enc b = y at *
  generalize key a = u at *
  generalize key b = v at *
  go_wp2_with fail
  cases E <;> cases Q
  · clear hX
    go_region_held3 (fun W => F2 w W a b ∧ W.cell? ⟨w.heap.size, 0, none⟩ = some (.string (B a.row)) ∧ W.cell? ⟨w.heap.size, 1, none⟩ = some (.string (B a.col)) ∧ W.cell? ⟨w.heap.size, 2, none⟩ = some (.int .u64 a.ts) ∧ W.cell? ⟨w.heap.size, 3, none⟩ = some (.int .u64 a.seq) ∧ W.cell? ⟨w.heap.size, 4, none⟩ = some (.bool a.del) ∧ W.cell? ⟨w.heap.size, 5, none⟩ = some (.string (B a.val)) ∧ W.cell? ⟨w.heap.size + 1, 0, none⟩ = some (.string (B b.row)) ∧ W.cell? ⟨w.heap.size + 1, 1, none⟩ = some (.string (B b.col)) ∧ W.cell? ⟨w.heap.size + 1, 2, none⟩ = some (.int .u64 b.ts) ∧ W.cell? ⟨w.heap.size + 1, 3, none⟩ = some (.int .u64 b.seq) ∧ W.cell? ⟨w.heap.size + 1, 4, none⟩ = some (.bool b.del) ∧ W.cell? ⟨w.heap.size + 1, 5, none⟩ = some (.string (B b.val))) (first | exact F2.held (F2.old (And.left (by assumption)) (by assumption)) | exact F2.held (F2.drew (And.left (by assumption))) | exact F2.held (And.left (by assumption)) | exact F2.held f7 | exact F2.held f7.drew)
      (first
        | (go_at_call 23; with_reducible refine (c1.out _).mono ?_; rintro r w20 ⟨rfl, h20⟩)
        | (go_at_call 23; with_reducible refine (c2.out _).mono ?_; rintro r w21 ⟨rfl, h21⟩)
        | (go_at_call 17; with_reducible refine (c3.out _).mono ?_; rintro r w22 ⟨rfl, h22⟩))
    have f9 : F2 w _ a b := And.left (by assumption)
    go_wp2
    go_ret
    exact ⟨rfl, f9.od⟩
  · clear hX
    go_region_held3 (fun W => F2 w W a b ∧ W.cell? ⟨w.heap.size, 0, none⟩ = some (.string (B a.row)) ∧ W.cell? ⟨w.heap.size, 1, none⟩ = some (.string (B a.col)) ∧ W.cell? ⟨w.heap.size, 2, none⟩ = some (.int .u64 a.ts) ∧ W.cell? ⟨w.heap.size, 3, none⟩ = some (.int .u64 a.seq) ∧ W.cell? ⟨w.heap.size, 4, none⟩ = some (.bool a.del) ∧ W.cell? ⟨w.heap.size, 5, none⟩ = some (.string (B a.val)) ∧ W.cell? ⟨w.heap.size + 1, 0, none⟩ = some (.string (B b.row)) ∧ W.cell? ⟨w.heap.size + 1, 1, none⟩ = some (.string (B b.col)) ∧ W.cell? ⟨w.heap.size + 1, 2, none⟩ = some (.int .u64 b.ts) ∧ W.cell? ⟨w.heap.size + 1, 3, none⟩ = some (.int .u64 b.seq) ∧ W.cell? ⟨w.heap.size + 1, 4, none⟩ = some (.bool b.del) ∧ W.cell? ⟨w.heap.size + 1, 5, none⟩ = some (.string (B b.val))) (first | exact F2.held (F2.old (And.left (by assumption)) (by assumption)) | exact F2.held (F2.drew (And.left (by assumption))) | exact F2.held (And.left (by assumption)) | exact F2.held f7 | exact F2.held f7.drew)
      (first
        | (go_at_call 23; with_reducible refine (c1.out _).mono ?_; rintro r w20 ⟨rfl, h20⟩)
        | (go_at_call 23; with_reducible refine (c2.out _).mono ?_; rintro r w21 ⟨rfl, h21⟩)
        | (go_at_call 17; with_reducible refine (c3.out _).mono ?_; rintro r w22 ⟨rfl, h22⟩))
    have f9 : F2 w _ a b := And.left (by assumption)
    go_wp2
    go_ret
    exact ⟨rfl, f9.od⟩
  · exact absurd (hX rfl) (by simp)
  · clear hX
    go_region_held3 (fun W => F2 w W a b ∧ W.cell? ⟨w.heap.size, 0, none⟩ = some (.string (B a.row)) ∧ W.cell? ⟨w.heap.size, 1, none⟩ = some (.string (B a.col)) ∧ W.cell? ⟨w.heap.size, 2, none⟩ = some (.int .u64 a.ts) ∧ W.cell? ⟨w.heap.size, 3, none⟩ = some (.int .u64 a.seq) ∧ W.cell? ⟨w.heap.size, 4, none⟩ = some (.bool a.del) ∧ W.cell? ⟨w.heap.size, 5, none⟩ = some (.string (B a.val)) ∧ W.cell? ⟨w.heap.size + 1, 0, none⟩ = some (.string (B b.row)) ∧ W.cell? ⟨w.heap.size + 1, 1, none⟩ = some (.string (B b.col)) ∧ W.cell? ⟨w.heap.size + 1, 2, none⟩ = some (.int .u64 b.ts) ∧ W.cell? ⟨w.heap.size + 1, 3, none⟩ = some (.int .u64 b.seq) ∧ W.cell? ⟨w.heap.size + 1, 4, none⟩ = some (.bool b.del) ∧ W.cell? ⟨w.heap.size + 1, 5, none⟩ = some (.string (B b.val))) (first | exact F2.held (F2.old (And.left (by assumption)) (by assumption)) | exact F2.held (F2.drew (And.left (by assumption))) | exact F2.held (And.left (by assumption)) | exact F2.held f7 | exact F2.held f7.drew)
      (first
        | (go_at_call 23; with_reducible refine (c1.out _).mono ?_; rintro r w20 ⟨rfl, h20⟩)
        | (go_at_call 23; with_reducible refine (c2.out _).mono ?_; rintro r w21 ⟨rfl, h21⟩)
        | (go_at_call 17; with_reducible refine (c3.out _).mono ?_; rintro r w22 ⟨rfl, h22⟩))
    have f9 : F2 w _ a b := And.left (by assumption)
    go_wp2
    go_ret
    exact ⟨rfl, f9.od⟩

theorem law_apart (a b : Cel) (ha : a.ok) (hb : b.ok) (w : World) :
    Calls Try.prog 9 #[cv a, cv b] w fun e w' => e = .returned (.bool true) ∧ Old w w' := by
  by_cases hS : sameB a b = true
  · refine law_apart_yes a b ha hb _ _ rfl hS rfl (fun h => ?_) w
    have := (eqB_iff a b).1 h
    subst this
    simp
  · refine law_apart_no a b ha hb ?_ (by simpa using hS) w
    cases hE : eqB a b
    · rfl
    · have := (eqB_iff a b).1 hE
      subst this
      exact absurd (by simp [sameB]) hS

set_option maxRecDepth 100000 in
theorem cellApart_lifted (os : Os) (started : os.Started) (H : Type) (enc : TypeId × Value → H) :
    ReturnsInHanded {} Try.checked os 9 .any (Rows.cellApartSpec.pre6 enc Try.prog Try.f9 Rows.cellApartRow.domain false) (Rows.cellApartSpec.post enc Try.prog Try.f9 false true false false) := by
  refine returnsInHanded_of_change (C := Try.checked) Try.own started (by kernel_rfl) Try.func9
    (ChangeSpec.witness6 (enc := enc) (C := Try.checked) false ⟨#[], #[.agg zeroCell, .agg zeroCell], []⟩ 8 (by kernel_rfl) (by kernel_rfl) (by kernel_rfl) (by kernel_rfl)) ?_
  intro W base args ds gs before hval0 hW hcnd _
  have hval : ∀ (j : Nat) t v, Try.f9.params[j]? = some t → args[j]? = some v → Value.okWide Try.prog W .any base t v := hval0
  have hW' := hW
  obtain ⟨p, q, hA0, hV, rfl, hfz, hnd⟩ := hW
  have hA : DataW.TrodAll enc Try.prog W 0 (fun _ => true) true Try.f9.params.toList args.toList ds p := hA0
  rw [Try.params9] at hA hval
  obtain ⟨v0, v1, d0, d1, p0, p1, rfl, rfl, rfl, h0, h1⟩ := trodAll_two hA
  obtain ⟨rfl, rfl⟩ := trodVars_none hV
  have hlt : ∀ x ∈ p0 ++ (p1), x.block < W.heap.size := fun x hx => hW'.lt x (by simpa using hx)
  have k0 := h0
  have k1 := h1
  obtain ⟨a0, rfl, o0, -⟩ := open_cel (hval 0 24 v0 rfl rfl) h0
  obtain ⟨a1, rfl, o1, -⟩ := open_cel (hval 1 24 v1 rfl rfl) h1
  clear hA0 hval0
  refine (law_apart a0 a1 o0 o1 W).mono fun e W' ⟨he, hb⟩ => ?_
  subst he
  refine ⟨_, rfl, _, _, _, [], p0 ++ (p1), [], hW', trodAll_mk1 (shut_bool Try.underlying4 _), ?_, rfl, hb.frame _, fun h => by cases h⟩
  have r0 := Below.trod Try.laidOut (by kernel_rfl) (of_decide_eq_true (by kernel_rfl)) k0 hb (fun x hx => hlt x (by simp [hx]))
  have r1 := Below.trod Try.laidOut (by kernel_rfl) (of_decide_eq_true (by kernel_rfl)) k1 hb (fun x hx => hlt x (by simp [hx]))
  exact trodAll_mk2 r0 r1

theorem cellApart_holds : Rows.CellApartSaid :=
  OpenClaim.holds_of_wide 9 Try.f9 rfl rfl rfl rfl rfl rfl rfl ⟨rfl, rfl, rfl, rfl, rfl⟩ rfl rfl rfl rfl rfl (by kernel_rfl) Try.func9 (by kernel_rfl)
    (of_decide_eq_true (by kernel_rfl)) (by unfold Func.isWrapper; first | (rw [if_pos (by decide +kernel)]; kernel_rfl) | (rw [if_neg (by decide +kernel)]; exact ⟨rfl, rfl⟩))
    (fun os started H enc _ => cellApart_lifted os started H enc)
#print axioms cellApart_holds
end Go.Proofs.Ythdpiagnjakjiaa
