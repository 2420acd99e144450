/-
  CellTotal: whatever three cells come in, the law answers true, and leaves all as it was. No conditions.
-/
import Derived.Test.YthdpiagnjakjiaaLift
import Derived.Test.YthdpiagnjakjiaaOrder
namespace Go.Proofs.Ythdpiagnjakjiaa
open Go.ChangeShapes Go.WideShapes Go.ChangeAt Go.RowKit Go.Joins Go.Deep

/-- Three cells that were boxed, one behind the other. -/
structure F3 (w W : World) (a b c : Cel) : Prop where
  ba : Bk W w.heap.size 24 (cells a)
  bb : Bk W (w.heap.size + 1) 24 (cells b)
  bc : Bk W (w.heap.size + 1 + 1) 24 (cells c)
  od : Old w W
theorem F3.old {w W W' : World} {a b c : Cel} (h : F3 w W a b c) (k : Old W W') : F3 w W' a b c := ⟨h.ba.old k, h.bb.old k, h.bc.old k, h.od.tr k⟩
theorem F3.new (w : World) (a b c : Cel) : F3 w (((w.alloc (.cells (cells a) 24)).alloc (.cells (cells b) 24)).alloc (.cells (cells c) 24)) a b c :=
  ⟨((new_bk w _ _).alloc _).alloc _, (new_bk1 w _ _ _).alloc _, by have := new_bk1 (w.alloc (.cells (cells a) 24)) (.cells (cells b) 24) 24 (cells c); simpa using this, (((Old.re _).al _).al _).al _⟩
theorem F3.held {w W : World} {a b c : Cel} (h : F3 w W a b c) : F3 w W a b c ∧ W.cell? ⟨w.heap.size, 0, none⟩ = some (.string (B a.row)) ∧ W.cell? ⟨w.heap.size, 1, none⟩ = some (.string (B a.col)) ∧ W.cell? ⟨w.heap.size, 2, none⟩ = some (.int .u64 a.ts) ∧ W.cell? ⟨w.heap.size, 3, none⟩ = some (.int .u64 a.seq) ∧ W.cell? ⟨w.heap.size, 4, none⟩ = some (.bool a.del) ∧ W.cell? ⟨w.heap.size, 5, none⟩ = some (.string (B a.val)) ∧ W.cell? ⟨w.heap.size + 1, 0, none⟩ = some (.string (B b.row)) ∧ W.cell? ⟨w.heap.size + 1, 1, none⟩ = some (.string (B b.col)) ∧ W.cell? ⟨w.heap.size + 1, 2, none⟩ = some (.int .u64 b.ts) ∧ W.cell? ⟨w.heap.size + 1, 3, none⟩ = some (.int .u64 b.seq) ∧ W.cell? ⟨w.heap.size + 1, 4, none⟩ = some (.bool b.del) ∧ W.cell? ⟨w.heap.size + 1, 5, none⟩ = some (.string (B b.val)) := by
  obtain ⟨a0, a1, a2, a3, a4, a5⟩ := h.ba.six
  obtain ⟨b0, b1, b2, b3, b4, b5⟩ := h.bb.six
  exact ⟨h, a0, a1, a2, a3, a4, a5, b0, b1, b2, b3, b4, b5⟩
theorem F3.drew {w W : World} {a b c : Cel} (h : F3 w W a b c) : F3 w W.drew a b c := ⟨h.ba, h.bb, h.bc, h.od.dr⟩

theorem cmp_at (a b : Cel) (x : Int) (h : cmpC a b = x) (w : World) : Calls Try.prog 15 #[cv a, cv b] w fun e w' => e = .returned (.int .i64 x) ∧ Old w w' := by
  rw [← h]; exact cmp_any a b w

set_option maxHeartbeats 2000000 in
theorem law_total_no (a b c : Cel) (w : World) (h : ¬ (boundedB a = true ∧ boundedB b = true ∧ boundedB c = true)) :
    Calls Try.prog 8 #[cv a, cv b, cv c] w fun e w' => e = .returned (.bool true) ∧ Old w w' := by
  go_enter Try.func8, Try.ntmps8
  have f0 := F3.new w a b c
  go_wp2_with fail
  refine (bounded_any a _).mono ?_
  rintro r w1 ⟨rfl, h1⟩
  have f1 := f0.old h1
  clear f0 h1
  cases ha : boundedB a
  · go_wp2_with fail
    refine (shown_any _).mono ?_
    rintro r w2 ⟨rfl, h2⟩
    go_wp2
    go_ret
    exact ⟨rfl, f1.od.tr h2⟩
  obtain ⟨a0, a1, a2, a3, a4, a5⟩ := f1.bb.six
  go_wp2_with fail
  refine (bounded_any b _).mono ?_
  rintro r w2 ⟨rfl, h1⟩
  have f2 := f1.old h1
  clear f1 h1 a0 a1 a2 a3 a4 a5
  cases hb : boundedB b
  · go_wp2_with fail
    refine (shown_any _).mono ?_
    rintro r w3 ⟨rfl, h2⟩
    go_wp2
    go_ret
    exact ⟨rfl, f2.od.tr h2⟩
  obtain ⟨a0, a1, a2, a3, a4, a5⟩ := f2.bc.six
  go_wp2_with fail
  refine (bounded_any c _).mono ?_
  rintro r w3 ⟨rfl, h1⟩
  have f3 := f2.old h1
  clear f2 h1 a0 a1 a2 a3 a4 a5
  cases hc : boundedB c
  · go_wp2_with fail
    refine (shown_any _).mono ?_
    rintro r w4 ⟨rfl, h2⟩
    go_wp2
    go_ret
    exact ⟨rfl, f3.od.tr h2⟩
  exact absurd ⟨ha, hb, hc⟩ h

set_option maxRecDepth 100000 in
set_option maxHeartbeats 4000000 in
theorem law_total_yes (a b c : Cel) (x y : Int) (hx : x = -1 ∨ x = 0 ∨ x = 1) (hxab : cmpC a b = x) (hyba : cmpC b a = y) (hxy : y = - x) (z v : Int) (hzbc : cmpC b c = z) (hvac : cmpC a c = v) (hv : x ≤ 0 → z ≤ 0 → v ≤ 0) (w : World) (ha : boundedB a = true) (hb : boundedB b = true) (hc : boundedB c = true) :
    Calls Try.prog 8 #[cv a, cv b, cv c] w fun e w' => e = .returned (.bool true) ∧ Old w w' := by
  go_enter Try.func8, Try.ntmps8
  have f0 := F3.new w a b c
  go_wp2_with fail
  refine (bounded_any a _).mono ?_
  rintro r w1 ⟨rfl, h1⟩
  have f1 := f0.old h1
  clear f0 h1
  obtain ⟨a0, a1, a2, a3, a4, a5⟩ := f1.bb.six
  go_wp2_with fail
  refine (bounded_any b _).mono ?_
  rintro r w2 ⟨rfl, h1⟩
  have f2 := f1.old h1
  clear f1 h1 a0 a1 a2 a3 a4 a5
  obtain ⟨a0, a1, a2, a3, a4, a5⟩ := f2.bc.six
  go_wp2_with fail
  refine (bounded_any c _).mono ?_
  rintro r w3 ⟨rfl, h1⟩
  have f3 := f2.old h1
  clear f2 h1 a0 a1 a2 a3 a4 a5
  go_wp2_with fail
  refine (shown_any _).mono ?_
  rintro r w4 ⟨rfl, h1⟩
  have f4 := f3.old h1
  clear f3 h1
  have c1 := Lib.hid (cmp_at a b x hxab)
  have c2 := Lib.hid (cmp_at b a y hyba)
  have c3 := Lib.hid (cmp_at a a 0 (cmpC_refl a))
  have HX := Lib.hid hxab
  clear hxab hyba ha hb hc
  go_wp2_with fail
  have hw1 : IntKind.i64.wrap (-1) = -1 := by decide
  have hw2 : IntKind.i64.wrap 1 = 1 := by decide
  have hw3 : IntKind.i64.wrap 0 = 0 := by decide
  have c4 := Lib.hid (cmp_at b c z hzbc)
  have c5 := Lib.hid (cmp_at a c v hvac)
  clear hzbc hvac
  rcases hx with rfl | rfl | rfl
  · obtain rfl : y = 1 := by omega
    clear hxy
    go_region_held3 (fun W => F3 w W a b c ∧ W.cell? ⟨w.heap.size, 0, none⟩ = some (.string (B a.row)) ∧ W.cell? ⟨w.heap.size, 1, none⟩ = some (.string (B a.col)) ∧ W.cell? ⟨w.heap.size, 2, none⟩ = some (.int .u64 a.ts) ∧ W.cell? ⟨w.heap.size, 3, none⟩ = some (.int .u64 a.seq) ∧ W.cell? ⟨w.heap.size, 4, none⟩ = some (.bool a.del) ∧ W.cell? ⟨w.heap.size, 5, none⟩ = some (.string (B a.val)) ∧ W.cell? ⟨w.heap.size + 1, 0, none⟩ = some (.string (B b.row)) ∧ W.cell? ⟨w.heap.size + 1, 1, none⟩ = some (.string (B b.col)) ∧ W.cell? ⟨w.heap.size + 1, 2, none⟩ = some (.int .u64 b.ts) ∧ W.cell? ⟨w.heap.size + 1, 3, none⟩ = some (.int .u64 b.seq) ∧ W.cell? ⟨w.heap.size + 1, 4, none⟩ = some (.bool b.del) ∧ W.cell? ⟨w.heap.size + 1, 5, none⟩ = some (.string (B b.val))) (first | exact F3.held (F3.old (And.left (by assumption)) (by assumption)) | exact F3.held (F3.drew (And.left (by assumption))) | exact F3.held (And.left (by assumption)) | exact F3.held f4 | exact F3.held f4.drew)
      (first
        | (go_at_call 15; with_reducible refine (c1.out _).mono ?_; rintro r w5 ⟨rfl, h5⟩)
        | (go_at_call 15; with_reducible refine (c2.out _).mono ?_; rintro r w6 ⟨rfl, h6⟩)
        | (go_at_call 15; with_reducible refine (c3.out _).mono ?_; rintro r w7 ⟨rfl, h7⟩))
    have f7 : F3 w w7 a b c := And.left (by assumption)
    clear f4 h5 h6 h7 hw1 hw2 hw3
    obtain ⟨a0, a1, a2, a3, a4, a5⟩ := f7.ba.six
    obtain ⟨b0, b1, b2, b3, b4, b5⟩ := f7.bb.six
    go_wp2_with fail
    refine (c1.out _).mono ?_
    rintro r w8 ⟨rfl, h8⟩
    have f8 := f7.old h8
    clear f7 h8 a0 a1 a2 a3 a4 a5 b0 b1 b2 b3 b4 b5
    obtain ⟨b0, b1, b2, b3, b4, b5⟩ := f8.bb.six
    obtain ⟨d0, d1, d2, d3, d4, d5⟩ := f8.bc.six
    go_wp2_with fail
    refine (c4.out _).mono ?_
    rintro r w9 ⟨rfl, h9⟩
    have f9 := f8.old h9
    clear f8 h9 b0 b1 b2 b3 b4 b5 d0 d1 d2 d3 d4 d5
    by_cases hz0 : z ≤ 0
    · have hv0 : v ≤ 0 := hv (by omega) hz0
      clear hv
      obtain ⟨b0, b1, b2, b3, b4, b5⟩ := f9.ba.six
      obtain ⟨d0, d1, d2, d3, d4, d5⟩ := f9.bc.six
      go_wp2_with fail
      refine (c5.out _).mono ?_
      rintro r w10 ⟨rfl, h10⟩
      have f10 := f9.old h10
      clear f9 h10 b0 b1 b2 b3 b4 b5 d0 d1 d2 d3 d4 d5
      go_wp2
      go_ret
      exact ⟨ret_bool (by simp), f10.od⟩
    · clear hv
      go_wp2
      go_ret
      exact ⟨ret_bool (by simp), f9.od⟩
  · obtain rfl : y = 0 := by omega
    clear hxy
    go_region_held3 (fun W => F3 w W a b c ∧ W.cell? ⟨w.heap.size, 0, none⟩ = some (.string (B a.row)) ∧ W.cell? ⟨w.heap.size, 1, none⟩ = some (.string (B a.col)) ∧ W.cell? ⟨w.heap.size, 2, none⟩ = some (.int .u64 a.ts) ∧ W.cell? ⟨w.heap.size, 3, none⟩ = some (.int .u64 a.seq) ∧ W.cell? ⟨w.heap.size, 4, none⟩ = some (.bool a.del) ∧ W.cell? ⟨w.heap.size, 5, none⟩ = some (.string (B a.val)) ∧ W.cell? ⟨w.heap.size + 1, 0, none⟩ = some (.string (B b.row)) ∧ W.cell? ⟨w.heap.size + 1, 1, none⟩ = some (.string (B b.col)) ∧ W.cell? ⟨w.heap.size + 1, 2, none⟩ = some (.int .u64 b.ts) ∧ W.cell? ⟨w.heap.size + 1, 3, none⟩ = some (.int .u64 b.seq) ∧ W.cell? ⟨w.heap.size + 1, 4, none⟩ = some (.bool b.del) ∧ W.cell? ⟨w.heap.size + 1, 5, none⟩ = some (.string (B b.val))) (first | exact F3.held (F3.old (And.left (by assumption)) (by assumption)) | exact F3.held (F3.drew (And.left (by assumption))) | exact F3.held (And.left (by assumption)) | exact F3.held f4 | exact F3.held f4.drew)
      (first
        | (go_at_call 15; with_reducible refine (c1.out _).mono ?_; rintro r w5 ⟨rfl, h5⟩)
        | (go_at_call 15; with_reducible refine (c2.out _).mono ?_; rintro r w6 ⟨rfl, h6⟩)
        | (go_at_call 15; with_reducible refine (c3.out _).mono ?_; rintro r w7 ⟨rfl, h7⟩))
    have f7 : F3 w w7 a b c := And.left (by assumption)
    clear f4 h5 h6 h7 hw1 hw2 hw3
    obtain ⟨a0, a1, a2, a3, a4, a5⟩ := f7.ba.six
    obtain ⟨b0, b1, b2, b3, b4, b5⟩ := f7.bb.six
    go_wp2_with fail
    refine (c1.out _).mono ?_
    rintro r w8 ⟨rfl, h8⟩
    have f8 := f7.old h8
    clear f7 h8 a0 a1 a2 a3 a4 a5 b0 b1 b2 b3 b4 b5
    obtain ⟨b0, b1, b2, b3, b4, b5⟩ := f8.bb.six
    obtain ⟨d0, d1, d2, d3, d4, d5⟩ := f8.bc.six
    go_wp2_with fail
    refine (c4.out _).mono ?_
    rintro r w9 ⟨rfl, h9⟩
    have f9 := f8.old h9
    clear f8 h9 b0 b1 b2 b3 b4 b5 d0 d1 d2 d3 d4 d5
    by_cases hz0 : z ≤ 0
    · have hv0 : v ≤ 0 := hv (by omega) hz0
      clear hv
      obtain ⟨b0, b1, b2, b3, b4, b5⟩ := f9.ba.six
      obtain ⟨d0, d1, d2, d3, d4, d5⟩ := f9.bc.six
      go_wp2_with fail
      refine (c5.out _).mono ?_
      rintro r w10 ⟨rfl, h10⟩
      have f10 := f9.old h10
      clear f9 h10 b0 b1 b2 b3 b4 b5 d0 d1 d2 d3 d4 d5
      go_wp2
      go_ret
      exact ⟨ret_bool (by simp), f10.od⟩
    · clear hv
      go_wp2
      go_ret
      exact ⟨ret_bool (by simp), f9.od⟩
  · obtain rfl : y = -1 := by omega
    clear hxy
    go_region_held3 (fun W => F3 w W a b c ∧ W.cell? ⟨w.heap.size, 0, none⟩ = some (.string (B a.row)) ∧ W.cell? ⟨w.heap.size, 1, none⟩ = some (.string (B a.col)) ∧ W.cell? ⟨w.heap.size, 2, none⟩ = some (.int .u64 a.ts) ∧ W.cell? ⟨w.heap.size, 3, none⟩ = some (.int .u64 a.seq) ∧ W.cell? ⟨w.heap.size, 4, none⟩ = some (.bool a.del) ∧ W.cell? ⟨w.heap.size, 5, none⟩ = some (.string (B a.val)) ∧ W.cell? ⟨w.heap.size + 1, 0, none⟩ = some (.string (B b.row)) ∧ W.cell? ⟨w.heap.size + 1, 1, none⟩ = some (.string (B b.col)) ∧ W.cell? ⟨w.heap.size + 1, 2, none⟩ = some (.int .u64 b.ts) ∧ W.cell? ⟨w.heap.size + 1, 3, none⟩ = some (.int .u64 b.seq) ∧ W.cell? ⟨w.heap.size + 1, 4, none⟩ = some (.bool b.del) ∧ W.cell? ⟨w.heap.size + 1, 5, none⟩ = some (.string (B b.val))) (first | exact F3.held (F3.old (And.left (by assumption)) (by assumption)) | exact F3.held (F3.drew (And.left (by assumption))) | exact F3.held (And.left (by assumption)) | exact F3.held f4 | exact F3.held f4.drew)
      (first
        | (go_at_call 15; with_reducible refine (c1.out _).mono ?_; rintro r w5 ⟨rfl, h5⟩)
        | (go_at_call 15; with_reducible refine (c2.out _).mono ?_; rintro r w6 ⟨rfl, h6⟩)
        | (go_at_call 15; with_reducible refine (c3.out _).mono ?_; rintro r w7 ⟨rfl, h7⟩))
    have f7 : F3 w w7 a b c := And.left (by assumption)
    clear f4 h5 h6 h7 hw1 hw2 hw3
    obtain ⟨a0, a1, a2, a3, a4, a5⟩ := f7.ba.six
    obtain ⟨b0, b1, b2, b3, b4, b5⟩ := f7.bb.six
    go_wp2_with fail
    refine (c1.out _).mono ?_
    rintro r w8 ⟨rfl, h8⟩
    have f8 := f7.old h8
    clear f7 h8 a0 a1 a2 a3 a4 a5 b0 b1 b2 b3 b4 b5
    go_wp2
    go_ret
    exact ⟨rfl, f8.od⟩

theorem law_total (a b c : Cel) (w : World) :
    Calls Try.prog 8 #[cv a, cv b, cv c] w fun e w' => e = .returned (.bool true) ∧ Old w w' := by
  by_cases h : boundedB a = true ∧ boundedB b = true ∧ boundedB c = true
  · exact law_total_yes a b c _ _ (cmpC_vals a b) rfl rfl (cmpC_neg a b) _ _ rfl rfl (cmpC_trans a b c) w h.1 h.2.1 h.2.2
  · exact law_total_no a b c w h

set_option maxRecDepth 100000 in
theorem cellTotal_lifted (os : Os) (started : os.Started) (H : Type) (enc : TypeId × Value → H) :
    ReturnsInHanded {} Try.checked os 8 .any (Rows.cellTotalSpec.pre6 enc Try.prog Try.f8 Rows.cellTotalRow.domain false) (Rows.cellTotalSpec.post enc Try.prog Try.f8 false true false false) := by
  refine returnsInHanded_of_change (C := Try.checked) Try.own started (by kernel_rfl) Try.func8
    (ChangeSpec.witness6 (enc := enc) (C := Try.checked) false ⟨#[], #[.agg zeroCell, .agg zeroCell, .agg zeroCell], []⟩ 8 (by kernel_rfl) (by kernel_rfl) (by kernel_rfl) (by kernel_rfl)) ?_
  intro W base args ds gs before hval0 hW hcnd _
  have hval : ∀ (j : Nat) t v, Try.f8.params[j]? = some t → args[j]? = some v → Value.okWide Try.prog W .any base t v := hval0
  have hW' := hW
  obtain ⟨p, q, hA0, hV, rfl, hfz, hnd⟩ := hW
  have hA : DataW.TrodAll enc Try.prog W 0 (fun _ => true) true Try.f8.params.toList args.toList ds p := hA0
  rw [Try.params8] at hA hval
  obtain ⟨v0, v1, v2, d0, d1, d2, p0, p1, p2, rfl, rfl, rfl, h0, h1, h2⟩ := trodAll_three hA
  obtain ⟨rfl, rfl⟩ := trodVars_none hV
  have k0 := h0
  have k1 := h1
  have k2 := h2
  obtain ⟨a, rfl, -⟩ := open_cel (hval 0 24 v0 rfl rfl) h0
  obtain ⟨b, rfl, -⟩ := open_cel (hval 1 24 v1 rfl rfl) h1
  obtain ⟨c, rfl, -⟩ := open_cel (hval 2 24 v2 rfl rfl) h2
  clear hA0 hval0
  refine (law_total a b c W).mono fun e W' ⟨he, hb⟩ => ?_
  subst he
  have hlt : ∀ x ∈ p0 ++ p1 ++ p2, x.block < W.heap.size := fun x hx => hW'.lt x (by simpa using hx)
  refine ⟨_, rfl, _, _, _, [], p0 ++ (p1 ++ p2), [], hW', trodAll_mk1 (shut_bool Try.underlying4 _), ?_, rfl, hb.frame _, fun h => by cases h⟩
  have r0 := Below.trod Try.laidOut (by kernel_rfl) (of_decide_eq_true (by kernel_rfl)) k0 hb (fun x hx => hlt x (by simp [hx]))
  have r1 := Below.trod Try.laidOut (by kernel_rfl) (of_decide_eq_true (by kernel_rfl)) k1 hb (fun x hx => hlt x (by simp [hx]))
  have r2 := Below.trod Try.laidOut (by kernel_rfl) (of_decide_eq_true (by kernel_rfl)) k2 hb (fun x hx => hlt x (by simp [hx]))
  exact trodAll_mk3 r0 r1 r2

theorem cellTotal_holds : Rows.CellTotalSaid :=
  OpenClaim.holds_of_wide 8 Try.f8 rfl rfl rfl rfl rfl rfl rfl ⟨rfl, rfl, rfl, rfl, rfl⟩ rfl rfl rfl rfl rfl (by kernel_rfl) Try.func8 (by kernel_rfl)
    (of_decide_eq_true (by kernel_rfl)) (by unfold Func.isWrapper; first | (rw [if_pos (by decide +kernel)]; kernel_rfl) | (rw [if_neg (by decide +kernel)]; exact ⟨rfl, rfl⟩))
    (fun os started H enc _ => cellTotal_lifted os started H enc)
#print axioms cellTotal_holds
end Go.Proofs.Ythdpiagnjakjiaa
