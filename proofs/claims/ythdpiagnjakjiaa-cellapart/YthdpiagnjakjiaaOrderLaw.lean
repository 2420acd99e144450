/-
  CellOrder: whatever two cells come in, the law answers true, and leaves all as it was. No conditions.
-/
import Derived.Test.YthdpiagnjakjiaaLift
import Derived.Test.YthdpiagnjakjiaaKeyBack
namespace Go.Proofs.Ythdpiagnjakjiaa
open Go.ChangeShapes Go.WideShapes Go.ChangeAt Go.RowKit Go.Joins Go.Deep

/-- Two cells that were boxed, one behind the other. -/
structure F2 (w W : World) (a b : Cel) : Prop where
  ba : Bk W w.heap.size 24 (cells a)
  bb : Bk W (w.heap.size + 1) 24 (cells b)
  od : Old w W
theorem F2.old {w W W' : World} {a b : Cel} (h : F2 w W a b) (k : Old W W') : F2 w W' a b := ⟨h.ba.old k, h.bb.old k, h.od.tr k⟩
theorem F2.new (w : World) (a b : Cel) : F2 w ((w.alloc (.cells (cells a) 24)).alloc (.cells (cells b) 24)) a b :=
  ⟨(new_bk w _ _).alloc _, new_bk1 w _ _ _, ((Old.re _).al _).al _⟩
theorem cmp_at (a b : Cel) (x : Int) (h : cmpC a b = x) (w : World) : Calls Try.prog 15 #[cv a, cv b] w fun e w' => e = .returned (.int .i64 x) ∧ Old w w' := by
  rw [← h]; exact cmp_any a b w

theorem less_of_cmp_lt (s t : List UInt8) (h : cmpT s t = -1) : Op.bytesLess s t = true := by
  unfold cmpT at h; split at h
  · assumption
  · split at h <;> omega
theorem less_of_cmp_eq (s t : List UInt8) (h : cmpT s t = 0) : Op.bytesLess s t = false := by
  unfold cmpT at h; split at h
  · omega
  · simp_all
theorem less_of_cmp_gt (s t : List UInt8) (h : cmpT s t = 1) : Op.bytesLess s t = false := by
  unfold cmpT at h; split at h
  · omega
  · simp_all
theorem eq_of_cmp_lt (s t : List UInt8) (h : cmpT s t = -1) : (s == t) = false := by
  rw [beq_eq_false_iff_ne]; rintro rfl; rw [cmpT_refl] at h; omega
theorem eq_of_cmp_eq (s t : List UInt8) (h : cmpT s t = 0) : (s == t) = true := by
  rw [cmpT_zero s t h]; simp
theorem eq_of_cmp_gt (s t : List UInt8) (h : cmpT s t = 1) : (s == t) = false := by
  rw [beq_eq_false_iff_ne]; rintro rfl; rw [cmpT_refl] at h; omega

set_option maxRecDepth 100000 in
set_option maxHeartbeats 4000000 in
theorem law_order (a b : Cel) (ha : a.ok) (hb : b.ok) (w : World) :
    Calls Try.prog 6 #[cv a, cv b] w fun e w' => e = .returned (.bool true) ∧ Old w w' := by
  go_enter Try.func6, Try.ntmps6
  have f0 := F2.new w a b
  go_wp2_with fail
  refine (bounded_any a _).mono ?_
  rintro r w1 ⟨rfl, h1⟩
  have f1 := f0.old h1
  clear f0 h1
  cases hq1 : boundedB a
  · go_wp2_with fail
    refine (shown_any _).mono ?_
    rintro r w2 ⟨rfl, h2⟩
    go_wp2
    go_ret
    exact ⟨rfl, f1.od.tr h2⟩
  obtain ⟨a0, a1, a2, a3, a4, a5⟩ := f1.bb.six
  go_wp2_with fail
  refine (bounded_any b _).mono ?_
  rintro r w2 ⟨rfl, h2⟩
  have f2 := f1.old h2
  clear f1 h2 a0 a1 a2 a3 a4 a5
  cases hq2 : boundedB b
  · go_wp2_with fail
    refine (shown_any _).mono ?_
    rintro r w3 ⟨rfl, h3⟩
    go_wp2
    go_ret
    exact ⟨rfl, f2.od.tr h3⟩
  obtain ⟨a0, a1, a2, a3, a4, a5⟩ := f2.ba.six
  go_wp2_with fail
  refine (may_any a _).mono ?_
  rintro r w3 ⟨rfl, h3⟩
  have f3 := f2.old h3
  clear f2 h3 a0 a1 a2 a3 a4 a5
  cases hq3 : mayB a
  · go_wp2_with fail
    refine (shown_any _).mono ?_
    rintro r w4 ⟨rfl, h4⟩
    go_wp2
    go_ret
    exact ⟨rfl, f3.od.tr h4⟩
  obtain ⟨a0, a1, a2, a3, a4, a5⟩ := f3.bb.six
  go_wp2_with fail
  refine (may_any b _).mono ?_
  rintro r w4 ⟨rfl, h4⟩
  have f4 := f3.old h4
  clear f3 h4 a0 a1 a2 a3 a4 a5
  cases hq4 : mayB b
  · go_wp2_with fail
    refine (shown_any _).mono ?_
    rintro r w5 ⟨rfl, h5⟩
    go_wp2
    go_ret
    exact ⟨rfl, f4.od.tr h5⟩
  go_wp2_with fail
  refine (shown_any _).mono ?_
  rintro r w5 ⟨rfl, h5⟩
  have f5 := f4.old h5
  clear f4 h5
  obtain ⟨a0, a1, a2, a3, a4, a5⟩ := f5.ba.six
  go_wp2_with fail
  refine (key_yes a _ hq3 ha).mono ?_
  rintro r w6 ⟨rfl, h6⟩
  have f6 := f5.old h6
  clear f5 h6 a0 a1 a2 a3 a4 a5
  obtain ⟨a0, a1, a2, a3, a4, a5⟩ := f6.bb.six
  go_wp2_with fail
  refine (key_yes b _ hq4 hb).mono ?_
  rintro r w7 ⟨rfl, h7⟩
  have f7 := f6.old h7
  clear f6 h7 a0 a1 a2 a3 a4 a5
  have hkk := cmpT_key a b ha hb
  have hneg := cmpC_neg a b
  rw [← hkk] at hneg
  rcases cmpT_vals (key a) (key b) with hk | hk | hk
  · have hl : Op.bytesLess (key a) (key b) = true := less_of_cmp_lt _ _ hk
    have he : (key a == key b) = false := eq_of_cmp_lt _ _ hk
    have hkb := hneg
    rw [hk] at hkb
    have c1 := Lib.hid (cmp_at a b (-1) (hkk.symm.trans hk))
    have c2 := Lib.hid (cmp_at b a (1) (hkb.trans (by decide)))
    clear hk hkk hkb hneg ha hb
    generalize key a = x at *
    generalize key b = y at *
    obtain ⟨a0, a1, a2, a3, a4, a5⟩ := f7.ba.six
    obtain ⟨b0, b1, b2, b3, b4, b5⟩ := f7.bb.six
    go_wp2_with fail
    refine (c1.out _).mono ?_
    rintro r w8 ⟨rfl, h8⟩
    have f8 := f7.old h8
    clear f7 h8 a0 a1 a2 a3 a4 a5 b0 b1 b2 b3 b4 b5
    obtain ⟨a0, a1, a2, a3, a4, a5⟩ := f8.bb.six
    obtain ⟨b0, b1, b2, b3, b4, b5⟩ := f8.ba.six
    go_wp2_with fail
    refine (c2.out _).mono ?_
    rintro r w9 ⟨rfl, h9⟩
    have f9 := f8.old h9
    clear f8 h9 a0 a1 a2 a3 a4 a5 b0 b1 b2 b3 b4 b5
    go_wp2
    go_ret
    exact ⟨rfl, f9.od⟩
  · have hl : Op.bytesLess (key a) (key b) = false := less_of_cmp_eq _ _ hk
    have he : (key a == key b) = true := eq_of_cmp_eq _ _ hk
    have hkb := hneg
    rw [hk] at hkb
    have c1 := Lib.hid (cmp_at a b (0) (hkk.symm.trans hk))
    have c2 := Lib.hid (cmp_at b a (0) (hkb.trans (by decide)))
    clear hk hkk hkb hneg ha hb
    generalize key a = x at *
    generalize key b = y at *
    obtain ⟨a0, a1, a2, a3, a4, a5⟩ := f7.ba.six
    obtain ⟨b0, b1, b2, b3, b4, b5⟩ := f7.bb.six
    go_wp2_with fail
    refine (c1.out _).mono ?_
    rintro r w8 ⟨rfl, h8⟩
    have f8 := f7.old h8
    clear f7 h8 a0 a1 a2 a3 a4 a5 b0 b1 b2 b3 b4 b5
    obtain ⟨a0, a1, a2, a3, a4, a5⟩ := f8.bb.six
    obtain ⟨b0, b1, b2, b3, b4, b5⟩ := f8.ba.six
    go_wp2_with fail
    refine (c2.out _).mono ?_
    rintro r w9 ⟨rfl, h9⟩
    have f9 := f8.old h9
    clear f8 h9 a0 a1 a2 a3 a4 a5 b0 b1 b2 b3 b4 b5
    go_wp2
    go_ret
    exact ⟨rfl, f9.od⟩
  · have hl : Op.bytesLess (key a) (key b) = false := less_of_cmp_gt _ _ hk
    have he : (key a == key b) = false := eq_of_cmp_gt _ _ hk
    have hkb := hneg
    rw [hk] at hkb
    have c1 := Lib.hid (cmp_at a b (1) (hkk.symm.trans hk))
    have c2 := Lib.hid (cmp_at b a (-1) (hkb.trans (by decide)))
    clear hk hkk hkb hneg ha hb
    generalize key a = x at *
    generalize key b = y at *
    obtain ⟨a0, a1, a2, a3, a4, a5⟩ := f7.ba.six
    obtain ⟨b0, b1, b2, b3, b4, b5⟩ := f7.bb.six
    go_wp2_with fail
    refine (c1.out _).mono ?_
    rintro r w8 ⟨rfl, h8⟩
    have f8 := f7.old h8
    clear f7 h8 a0 a1 a2 a3 a4 a5 b0 b1 b2 b3 b4 b5
    obtain ⟨a0, a1, a2, a3, a4, a5⟩ := f8.bb.six
    obtain ⟨b0, b1, b2, b3, b4, b5⟩ := f8.ba.six
    go_wp2_with fail
    refine (c2.out _).mono ?_
    rintro r w9 ⟨rfl, h9⟩
    have f9 := f8.old h9
    clear f8 h9 a0 a1 a2 a3 a4 a5 b0 b1 b2 b3 b4 b5
    go_wp2
    go_ret
    exact ⟨rfl, f9.od⟩

set_option maxRecDepth 100000 in
theorem cellOrder_lifted (os : Os) (started : os.Started) (H : Type) (enc : TypeId × Value → H) :
    ReturnsInHanded {} Try.checked os 6 .any (Rows.cellOrderSpec.pre6 enc Try.prog Try.f6 Rows.cellOrderRow.domain false) (Rows.cellOrderSpec.post enc Try.prog Try.f6 false true false false) := by
  refine returnsInHanded_of_change (C := Try.checked) Try.own started (by kernel_rfl) Try.func6
    (ChangeSpec.witness6 (enc := enc) (C := Try.checked) false ⟨#[], #[.agg zeroCell, .agg zeroCell], []⟩ 8 (by kernel_rfl) (by kernel_rfl) (by kernel_rfl) (by kernel_rfl)) ?_
  intro W base args ds gs before hval0 hW hcnd _
  have hval : ∀ (j : Nat) t v, Try.f6.params[j]? = some t → args[j]? = some v → Value.okWide Try.prog W .any base t v := hval0
  have hW' := hW
  obtain ⟨p, q, hA0, hV, rfl, hfz, hnd⟩ := hW
  have hA : DataW.TrodAll enc Try.prog W 0 (fun _ => true) true Try.f6.params.toList args.toList ds p := hA0
  rw [Try.params6] at hA hval
  obtain ⟨v0, v1, d0, d1, p0, p1, rfl, rfl, rfl, h0, h1⟩ := trodAll_two hA
  obtain ⟨rfl, rfl⟩ := trodVars_none hV
  have hlt : ∀ x ∈ p0 ++ (p1), x.block < W.heap.size := fun x hx => hW'.lt x (by simpa using hx)
  have k0 := h0
  have k1 := h1
  obtain ⟨a0, rfl, o0, -⟩ := open_cel (hval 0 24 v0 rfl rfl) h0
  obtain ⟨a1, rfl, o1, -⟩ := open_cel (hval 1 24 v1 rfl rfl) h1
  clear hA0 hval0
  refine (law_order a0 a1 o0 o1 W).mono fun e W' ⟨he, hb⟩ => ?_
  subst he
  refine ⟨_, rfl, _, _, _, [], p0 ++ (p1), [], hW', trodAll_mk1 (shut_bool Try.underlying4 _), ?_, rfl, hb.frame _, fun h => by cases h⟩
  have r0 := Below.trod Try.laidOut (by kernel_rfl) (of_decide_eq_true (by kernel_rfl)) k0 hb (fun x hx => hlt x (by simp [hx]))
  have r1 := Below.trod Try.laidOut (by kernel_rfl) (of_decide_eq_true (by kernel_rfl)) k1 hb (fun x hx => hlt x (by simp [hx]))
  exact trodAll_mk2 r0 r1

theorem cellOrder_holds : Rows.CellOrderSaid :=
  OpenClaim.holds_of_wide 6 Try.f6 rfl rfl rfl rfl rfl rfl rfl ⟨rfl, rfl, rfl, rfl, rfl⟩ rfl rfl rfl rfl rfl (by kernel_rfl) Try.func6 (by kernel_rfl)
    (of_decide_eq_true (by kernel_rfl)) (by unfold Func.isWrapper; first | (rw [if_pos (by decide +kernel)]; kernel_rfl) | (rw [if_neg (by decide +kernel)]; exact ⟨rfl, rfl⟩))
    (fun os started H enc _ => cellOrder_lifted os started H enc)
#print axioms cellOrder_holds
end Go.Proofs.Ythdpiagnjakjiaa
