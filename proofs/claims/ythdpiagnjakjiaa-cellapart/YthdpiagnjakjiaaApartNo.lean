/-
  CellApart's walk where the two cells have unlike coordinates. No other conditions.
-/
import Derived.Test.YthdpiagnjakjiaaOrderLaw
namespace Go.Proofs.Ythdpiagnjakjiaa
open Go.ChangeShapes Go.WideShapes Go.ChangeAt Go.RowKit Go.Joins Go.Deep

theorem F2.held {w W : World} {a b : Cel} (h : F2 w W a b) : F2 w W a b ∧ W.cell? ⟨w.heap.size, 0, none⟩ = some (.string (B a.row)) ∧ W.cell? ⟨w.heap.size, 1, none⟩ = some (.string (B a.col)) ∧ W.cell? ⟨w.heap.size, 2, none⟩ = some (.int .u64 a.ts) ∧ W.cell? ⟨w.heap.size, 3, none⟩ = some (.int .u64 a.seq) ∧ W.cell? ⟨w.heap.size, 4, none⟩ = some (.bool a.del) ∧ W.cell? ⟨w.heap.size, 5, none⟩ = some (.string (B a.val)) ∧ W.cell? ⟨w.heap.size + 1, 0, none⟩ = some (.string (B b.row)) ∧ W.cell? ⟨w.heap.size + 1, 1, none⟩ = some (.string (B b.col)) ∧ W.cell? ⟨w.heap.size + 1, 2, none⟩ = some (.int .u64 b.ts) ∧ W.cell? ⟨w.heap.size + 1, 3, none⟩ = some (.int .u64 b.seq) ∧ W.cell? ⟨w.heap.size + 1, 4, none⟩ = some (.bool b.del) ∧ W.cell? ⟨w.heap.size + 1, 5, none⟩ = some (.string (B b.val)) := by
  obtain ⟨a0, a1, a2, a3, a4, a5⟩ := h.ba.six
  obtain ⟨b0, b1, b2, b3, b4, b5⟩ := h.bb.six
  exact ⟨h, a0, a1, a2, a3, a4, a5, b0, b1, b2, b3, b4, b5⟩
theorem F2.drew {w W : World} {a b : Cel} (h : F2 w W a b) : F2 w W.drew a b := ⟨h.ba, h.bb, h.od.dr⟩
theorem same_at (a b : Cel) (x : Bool) (h : sameB a b = x) (w : World) : Calls Try.prog 17 #[cv a, cv b] w fun e w' => e = .returned (.bool x) ∧ Old w w' := by
  rw [← h]; exact same_any a b w
theorem enc_eq (a b : Cel) (ma : mayB a = true) (mb : mayB b = true) (ha : a.ok) (hb : b.ok) : (enc a == enc b) = eqB a b := by
  rw [Bool.eq_iff_iff, beq_iff_eq, eqB_iff]
  constructor
  · intro h
    have h1 := (dec_enc a [] ma ha).2.1
    have h2 := (dec_enc b [] mb hb).2.1
    rw [h] at h1
    exact h1.symm.trans h2
  · intro h; rw [h]
theorem key_same (a b : Cel) (ha : a.ok) (hb : b.ok) : (key a == key b) = (sameB a b && a.seq == b.seq) := by
  rw [Bool.eq_iff_iff, beq_iff_eq, key_eq a b ha hb, cmpC_zero]
  simp [sameB, and_assoc]

set_option maxRecDepth 100000 in
set_option maxHeartbeats 8000000 in
theorem law_apart_no (a b : Cel) (ha : a.ok) (hb : b.ok) (hE : eqB a b = false) (hS : sameB a b = false) (w : World) :
    Calls Try.prog 9 #[cv a, cv b] w fun e w' => e = .returned (.bool true) ∧ Old w w' := by
  go_enter Try.func9, Try.ntmps9
  have f0 := F2.new w a b
  go_wp2_with fail
  refine (bounded_any a _).mono ?_
  rintro r w1 ⟨rfl, h1⟩
  have f1 := f0.old h1
  clear f0 h1
  cases hq1 : boundedB a
  · go_wp2_with fail
    refine (shown_any _).mono ?_
    rintro r w2 ⟨rfl, h2⟩
    go_wp2
    go_ret
    exact ⟨rfl, f1.od.tr h2⟩
  obtain ⟨a0, a1, a2, a3, a4, a5⟩ := f1.bb.six
  go_wp2_with fail
  refine (bounded_any b _).mono ?_
  rintro r w2 ⟨rfl, h2⟩
  have f2 := f1.old h2
  clear f1 h2 a0 a1 a2 a3 a4 a5
  cases hq2 : boundedB b
  · go_wp2_with fail
    refine (shown_any _).mono ?_
    rintro r w3 ⟨rfl, h3⟩
    go_wp2
    go_ret
    exact ⟨rfl, f2.od.tr h3⟩
  obtain ⟨a0, a1, a2, a3, a4, a5⟩ := f2.ba.six
  go_wp2_with fail
  refine (may_any a _).mono ?_
  rintro r w3 ⟨rfl, h3⟩
  have f3 := f2.old h3
  clear f2 h3 a0 a1 a2 a3 a4 a5
  cases hq3 : mayB a
  · go_wp2_with fail
    refine (shown_any _).mono ?_
    rintro r w4 ⟨rfl, h4⟩
    go_wp2
    go_ret
    exact ⟨rfl, f3.od.tr h4⟩
  obtain ⟨a0, a1, a2, a3, a4, a5⟩ := f3.bb.six
  go_wp2_with fail
  refine (may_any b _).mono ?_
  rintro r w4 ⟨rfl, h4⟩
  have f4 := f3.old h4
  clear f3 h4 a0 a1 a2 a3 a4 a5
  cases hq4 : mayB b
  · go_wp2_with fail
    refine (shown_any _).mono ?_
    rintro r w5 ⟨rfl, h5⟩
    go_wp2
    go_ret
    exact ⟨rfl, f4.od.tr h5⟩
  go_wp2_with fail
  refine (shown_any _).mono ?_
  rintro r w5 ⟨rfl, h5⟩
  have f5 := f4.old h5
  clear f4 h5
  obtain ⟨a0, a1, a2, a3, a4, a5⟩ := f5.ba.six
  go_wp2_with fail
  refine (encode_yes a _ hq3 ha).mono ?_
  rintro r w6 ⟨rfl, h6⟩
  have f6 := f5.old h6
  clear f5 h6 a0 a1 a2 a3 a4 a5
  obtain ⟨a0, a1, a2, a3, a4, a5⟩ := f6.bb.six
  go_wp2_with fail
  refine (encode_yes b _ hq4 hb).mono ?_
  rintro r w7 ⟨rfl, h7⟩
  have f7 := f6.old h7
  clear f6 h7 a0 a1 a2 a3 a4 a5
  have he := fun W => eqlCell a b W
  have hn := enc_eq a b hq3 hq4 ha hb
  have hk := key_same a b ha hb
  rw [hE] at he hn
  rw [hS, Bool.false_and] at hk
  have c1 := Lib.hid (fun W => key_yes a W hq3 ha)
  have c2 := Lib.hid (fun W => key_yes b W hq4 hb)
  have c3 := Lib.hid (same_at a b false hS)
  clear ha hb hE hS hq3 hq4 hq1 hq2
  generalize enc a = x at *
  generalize enc b = y at *
  generalize key a = u at *
  generalize key b = v at *
  go_wp2_with fail
  refine wp_region_noPanic ?_
  refine wp_region_held_drew (S := fun W => F2 w W a b ∧ W.cell? ⟨w.heap.size, 0, none⟩ = some (.string (B a.row)) ∧ W.cell? ⟨w.heap.size, 1, none⟩ = some (.string (B a.col)) ∧ W.cell? ⟨w.heap.size, 2, none⟩ = some (.int .u64 a.ts) ∧ W.cell? ⟨w.heap.size, 3, none⟩ = some (.int .u64 a.seq) ∧ W.cell? ⟨w.heap.size, 4, none⟩ = some (.bool a.del) ∧ W.cell? ⟨w.heap.size, 5, none⟩ = some (.string (B a.val)) ∧ W.cell? ⟨w.heap.size + 1, 0, none⟩ = some (.string (B b.row)) ∧ W.cell? ⟨w.heap.size + 1, 1, none⟩ = some (.string (B b.col)) ∧ W.cell? ⟨w.heap.size + 1, 2, none⟩ = some (.int .u64 b.ts) ∧ W.cell? ⟨w.heap.size + 1, 3, none⟩ = some (.int .u64 b.seq) ∧ W.cell? ⟨w.heap.size + 1, 4, none⟩ = some (.bool b.del) ∧ W.cell? ⟨w.heap.size + 1, 5, none⟩ = some (.string (B b.val))) (by kernel_rfl) f7.drew.held (fun hHeld => ?_)
  refine wpAnyH_take (i := 0) (oi := ?o0) (v := .int .i64 0) ?h0 (by kernel_rfl) (by kernel_rfl) (by kernel_rfl) (fun _ _ _ h => h) ?y0 (by assumption) ?r0
  case h0 => (simp only [List.getElem?_toArray, List.getElem?_cons_zero]; rfl)
  case y0 => exact Or.inl ⟨by rfl, by (intro W hSw; (try dsimp only at hSw); go_simp)⟩
  simp only [Act.put, List.setIfInBounds_toArray, List.set_cons_zero, List.set_cons_succ]
  refine wpAnyH_take (i := 1) (oi := ?o1) (v := .bool true) ?h1 (by kernel_rfl) (by kernel_rfl) (by kernel_rfl) (fun _ _ _ h => h) ?y1 (by assumption) ?r1
  case h1 => (simp only [List.getElem?_toArray, List.getElem?_cons_zero, List.getElem?_cons_succ]; rfl)
  case y1 => exact Or.inl ⟨by rfl, by (intro W hSw; (try dsimp only at hSw); go_simp)⟩
  simp only [Act.put, List.setIfInBounds_toArray, List.set_cons_zero, List.set_cons_succ]
  refine wpAnyH_take (i := 2) (oi := ?o2) (v := .bool true) ?h2 (by kernel_rfl) (by kernel_rfl) (by kernel_rfl) (fun _ _ _ h => h) ?y2 (by assumption) ?r2
  case h2 => (simp only [List.getElem?_toArray, List.getElem?_cons_zero, List.getElem?_cons_succ]; rfl)
  case y2 => exact Or.inl ⟨by rfl, by (intro W hSw; (try dsimp only at hSw); go_simp)⟩
  simp only [Act.put, List.setIfInBounds_toArray, List.set_cons_zero, List.set_cons_succ]
  refine wpAnyH_take (i := 3) (oi := ?o3) (v := .int .i64 0) ?h3 (by kernel_rfl) (by kernel_rfl) (by kernel_rfl) (fun _ _ _ h => h) ?y3 (by assumption) ?r3
  case h3 => (simp only [List.getElem?_toArray, List.getElem?_cons_zero, List.getElem?_cons_succ]; rfl)
  case y3 => exact Or.inl ⟨by rfl, by (intro W hSw; (try dsimp only at hSw); go_simp)⟩
  simp only [Act.put, List.setIfInBounds_toArray, List.set_cons_zero, List.set_cons_succ]
  refine wpAnyH_take (i := 4) (oi := ?o4) (v := .bool true) ?h4 (by kernel_rfl) (by kernel_rfl) (by kernel_rfl) (fun _ _ _ h => h) ?y4 (by assumption) ?r4
  case h4 => (simp only [List.getElem?_toArray, List.getElem?_cons_zero, List.getElem?_cons_succ]; rfl)
  case y4 => exact Or.inl ⟨by rfl, by (intro W hSw; (try dsimp only at hSw); go_simp)⟩
  simp only [Act.put, List.setIfInBounds_toArray, List.set_cons_zero, List.set_cons_succ]
  refine wpAnyH_take (i := 5) (oi := ?o5) (v := .bool true) ?h5 (by kernel_rfl) (by kernel_rfl) (by kernel_rfl) (fun _ _ _ h => h) ?y5 (by assumption) ?r5
  case h5 => (simp only [List.getElem?_toArray, List.getElem?_cons_zero, List.getElem?_cons_succ]; rfl)
  case y5 => exact Or.inl ⟨by rfl, by (intro W hSw; (try dsimp only at hSw); go_simp)⟩
  simp only [Act.put, List.setIfInBounds_toArray, List.set_cons_zero, List.set_cons_succ]
  refine wpAnyH_take (i := 6) (oi := ?o6) (v := .bool true) ?h6 (by kernel_rfl) (by kernel_rfl) (by kernel_rfl) (fun _ _ _ h => h) ?y6 (by assumption) ?r6
  case h6 => (simp only [List.getElem?_toArray, List.getElem?_cons_zero, List.getElem?_cons_succ]; rfl)
  case y6 => exact Or.inl ⟨by rfl, by (intro W hSw; (try dsimp only at hSw); go_simp)⟩
  simp only [Act.put, List.setIfInBounds_toArray, List.set_cons_zero, List.set_cons_succ]
  refine wpAnyH_take (i := 7) (oi := ?o7) (v := .string (B x)) ?h7 (by kernel_rfl) (by kernel_rfl) (by kernel_rfl) (fun _ _ _ h => h) ?y7 (by assumption) ?r7
  case h7 => (simp only [List.getElem?_toArray, List.getElem?_cons_zero, List.getElem?_cons_succ]; rfl)
  case y7 => exact Or.inl ⟨by rfl, by (intro W hSw; (try dsimp only at hSw); go_simp)⟩
  simp only [Act.put, List.setIfInBounds_toArray, List.set_cons_zero, List.set_cons_succ]
  refine wpAnyH_take (i := 8) (oi := ?o8) (v := .string (B y)) ?h8 (by kernel_rfl) (by kernel_rfl) (by kernel_rfl) (fun _ _ _ h => h) ?y8 (by assumption) ?r8
  case h8 => (simp only [List.getElem?_toArray, List.getElem?_cons_zero, List.getElem?_cons_succ]; rfl)
  case y8 => exact Or.inl ⟨by rfl, by (intro W hSw; (try dsimp only at hSw); go_simp)⟩
  simp only [Act.put, List.setIfInBounds_toArray, List.set_cons_zero, List.set_cons_succ]
  refine wpAnyH_take (i := 9) (oi := ?o9) (v := .bool false) ?h9 (by kernel_rfl) (by kernel_rfl) (by kernel_rfl) (fun _ _ _ h => h) ?y9 (by assumption) ?r9
  case h9 => (simp only [List.getElem?_toArray, List.getElem?_cons_zero, List.getElem?_cons_succ]; rfl)
  case y9 => exact Or.inl ⟨by rfl, by (intro W hSw; (try dsimp only at hSw); go_simp)⟩
  simp only [Act.put, List.setIfInBounds_toArray, List.set_cons_zero, List.set_cons_succ]
  refine wpAnyH_take (i := 10) (oi := ?o10) (v := .agg #[.string (B a.row), .string (B a.col), .int .u64 a.ts, .int .u64 a.seq, .bool a.del, .string (B a.val)]) ?h10 (by kernel_rfl) (by kernel_rfl) (by kernel_rfl) (fun _ _ _ h => h) ?y10 (by assumption) ?r10
  case h10 => (simp only [List.getElem?_toArray, List.getElem?_cons_zero, List.getElem?_cons_succ]; rfl)
  case y10 => exact Or.inl ⟨by rfl, by (intro W hSw; (try dsimp only at hSw); go_simp)⟩
  simp only [Act.put, List.setIfInBounds_toArray, List.set_cons_zero, List.set_cons_succ]
  refine wpAnyH_take (i := 11) (oi := ?o11) (v := .agg #[.string (B b.row), .string (B b.col), .int .u64 b.ts, .int .u64 b.seq, .bool b.del, .string (B b.val)]) ?h11 (by kernel_rfl) (by kernel_rfl) (by kernel_rfl) (fun _ _ _ h => h) ?y11 (by assumption) ?r11
  case h11 => (simp only [List.getElem?_toArray, List.getElem?_cons_zero, List.getElem?_cons_succ]; rfl)
  case y11 => exact Or.inl ⟨by rfl, by (intro W hSw; (try dsimp only at hSw); go_simp)⟩
  simp only [Act.put, List.setIfInBounds_toArray, List.set_cons_zero, List.set_cons_succ]
  refine wpAnyH_take (i := 12) (oi := ?o12) (v := .bool false) ?h12 (by kernel_rfl) (by kernel_rfl) (by kernel_rfl) (fun _ _ _ h => h) ?y12 (by assumption) ?r12
  case h12 => (simp only [List.getElem?_toArray, List.getElem?_cons_zero, List.getElem?_cons_succ]; rfl)
  case y12 => exact Or.inl ⟨by rfl, by (intro W hSw; (try dsimp only at hSw); go_simp)⟩
  simp only [Act.put, List.setIfInBounds_toArray, List.set_cons_zero, List.set_cons_succ]
  refine wpAnyH_take (i := 13) (oi := ?o13) (v := .bool true) ?h13 (by kernel_rfl) (by kernel_rfl) (by kernel_rfl) (fun _ _ _ h => h) ?y13 (by assumption) ?r13
  case h13 => (simp only [List.getElem?_toArray, List.getElem?_cons_zero, List.getElem?_cons_succ]; rfl)
  case y13 => exact Or.inl ⟨by rfl, by (intro W hSw; (try dsimp only at hSw); go_simp)⟩
  simp only [Act.put, List.setIfInBounds_toArray, List.set_cons_zero, List.set_cons_succ]
  refine wpAnyH_take (i := 14) (oi := ?o14) (v := .bool true) ?h14 (by kernel_rfl) (by kernel_rfl) (by kernel_rfl) (fun _ _ _ h => h) ?y14 (by assumption) ?r14
  case h14 => (simp only [List.getElem?_toArray, List.getElem?_cons_zero, List.getElem?_cons_succ]; rfl)
  case y14 => exact Or.inl ⟨by rfl, by (intro W hSw; (try dsimp only at hSw); go_simp)⟩
  simp only [Act.put, List.setIfInBounds_toArray, List.set_cons_zero, List.set_cons_succ]
  refine wpAnyH_take (i := 15) (oi := ?o15) (v := .bool true) ?h15 (by kernel_rfl) (by kernel_rfl) (by kernel_rfl) (fun _ _ _ h => h) ?y15 (by assumption) ?r15
  case h15 => (simp only [List.getElem?_toArray, List.getElem?_cons_zero, List.getElem?_cons_succ]; rfl)
  case y15 => exact Or.inl ⟨by rfl, by (intro W hSw; (try dsimp only at hSw); go_simp)⟩
  simp only [Act.put, List.setIfInBounds_toArray, List.set_cons_zero, List.set_cons_succ]
  refine wpAnyH_take (i := 16) (oi := ?o16) (v := .agg #[.string (B a.row), .string (B a.col), .int .u64 a.ts, .int .u64 a.seq, .bool a.del, .string (B a.val)]) ?h16 (by kernel_rfl) (by kernel_rfl) (by kernel_rfl) (fun _ _ _ h => h) ?y16 (by assumption) ?r16
  case h16 => (simp only [List.getElem?_toArray, List.getElem?_cons_zero, List.getElem?_cons_succ]; rfl)
  case y16 => exact Or.inl ⟨by rfl, by (intro W hSw; (try dsimp only at hSw); go_simp)⟩
  simp only [Act.put, List.setIfInBounds_toArray, List.set_cons_zero, List.set_cons_succ]
  refine wpAnyH_take (i := 18) (oi := ?o18) (v := .agg #[.string (B b.row), .string (B b.col), .int .u64 b.ts, .int .u64 b.seq, .bool b.del, .string (B b.val)]) ?h18 (by kernel_rfl) (by kernel_rfl) (by kernel_rfl) (fun _ _ _ h => h) ?y18 (by assumption) ?r18
  case h18 => (simp only [List.getElem?_toArray, List.getElem?_cons_zero, List.getElem?_cons_succ]; rfl)
  case y18 => exact Or.inl ⟨by rfl, by (intro W hSw; (try dsimp only at hSw); go_simp)⟩
  simp only [Act.put, List.setIfInBounds_toArray, List.set_cons_zero, List.set_cons_succ]
  refine wpAnyH_take (i := 21) (oi := ?o21) (v := .agg #[.string (B a.row), .string (B a.col), .int .u64 a.ts, .int .u64 a.seq, .bool a.del, .string (B a.val)]) ?h21 (by kernel_rfl) (by kernel_rfl) (by kernel_rfl) (fun _ _ _ h => h) ?y21 (by assumption) ?r21
  case h21 => (simp only [List.getElem?_toArray, List.getElem?_cons_zero, List.getElem?_cons_succ]; rfl)
  case y21 => exact Or.inl ⟨by rfl, by (intro W hSw; (try dsimp only at hSw); go_simp)⟩
  simp only [Act.put, List.setIfInBounds_toArray, List.set_cons_zero, List.set_cons_succ]
  refine wpAnyH_take (i := 22) (oi := ?o22) (v := .agg #[.string (B b.row), .string (B b.col), .int .u64 b.ts, .int .u64 b.seq, .bool b.del, .string (B b.val)]) ?h22 (by kernel_rfl) (by kernel_rfl) (by kernel_rfl) (fun _ _ _ h => h) ?y22 (by assumption) ?r22
  case h22 => (simp only [List.getElem?_toArray, List.getElem?_cons_zero, List.getElem?_cons_succ]; rfl)
  case y22 => exact Or.inl ⟨by rfl, by (intro W hSw; (try dsimp only at hSw); go_simp)⟩
  simp only [Act.put, List.setIfInBounds_toArray, List.set_cons_zero, List.set_cons_succ]
  have f8 := f7.drew
  clear f7
  refine wpAnyH_ready (rs := [17]) (by kernel_rfl) (by simp) ?_
  refine AllReadyH.cons (o := ?o17) ?h17 (fun K hK => ?r17) AllReadyH.nil
  case h17 => (simp only [List.getElem?_toArray, List.getElem?_cons_zero, List.getElem?_cons_succ]; rfl)
  go_simp
  refine (c1.out _).mono ?_
  rintro r w20 ⟨rfl, h20⟩
  have f20 := f8.old h20
  clear f8 h20 hHeld
  refine hK.out _ _ f20.held (fun hHeld => ?_)
  clear hK K
  try simp only [Act.put, List.setIfInBounds_toArray, List.set_cons_zero, List.set_cons_succ]
  refine wpAnyH_ready (rs := [19]) (by kernel_rfl) (by simp) ?_
  refine AllReadyH.cons (o := ?o19) ?h19 (fun K hK => ?r19) AllReadyH.nil
  case h19 => (simp only [List.getElem?_toArray, List.getElem?_cons_zero, List.getElem?_cons_succ]; rfl)
  go_simp
  refine (c2.out _).mono ?_
  rintro r w21 ⟨rfl, h21⟩
  have f21 := f20.old h21
  clear f20 h21 hHeld
  refine hK.out _ _ f21.held (fun hHeld => ?_)
  clear hK K
  try simp only [Act.put, List.setIfInBounds_toArray, List.set_cons_zero, List.set_cons_succ]
  refine wpAnyH_take (i := 20) (oi := ?o20) (v := .bool false) ?h20 (by kernel_rfl) (by kernel_rfl) (by kernel_rfl) (fun _ _ _ h => h) ?y20 (by assumption) ?r20
  case h20 => (simp only [List.getElem?_toArray, List.getElem?_cons_zero, List.getElem?_cons_succ]; rfl)
  case y20 => exact Or.inl ⟨by rfl, by (intro W hSw; (try dsimp only at hSw); go_simp)⟩
  simp only [Act.put, List.setIfInBounds_toArray, List.set_cons_zero, List.set_cons_succ]
  refine wpAnyH_ready (rs := [23]) (by kernel_rfl) (by simp) ?_
  refine AllReadyH.cons (o := ?o23) ?h23 (fun K hK => ?r23) AllReadyH.nil
  case h23 => (simp only [List.getElem?_toArray, List.getElem?_cons_zero, List.getElem?_cons_succ]; rfl)
  go_simp
  refine (c3.out _).mono ?_
  rintro r w22 ⟨rfl, h22⟩
  have f22 := f21.old h22
  clear f21 h22 hHeld
  refine hK.out _ _ f22.held (fun hHeld => ?_)
  clear hK K
  try simp only [Act.put, List.setIfInBounds_toArray, List.set_cons_zero, List.set_cons_succ]
  refine wpAnyH_take (i := 24) (oi := ?o24) (v := .bool false) ?h24 (by kernel_rfl) (by kernel_rfl) (by kernel_rfl) (fun _ _ _ h => h) ?y24 (by assumption) ?r24
  case h24 => (simp only [List.getElem?_toArray, List.getElem?_cons_zero, List.getElem?_cons_succ]; rfl)
  case y24 => exact Or.inl ⟨by rfl, by (intro W hSw; (try dsimp only at hSw); go_simp)⟩
  simp only [Act.put, List.setIfInBounds_toArray, List.set_cons_zero, List.set_cons_succ]
  refine wpAnyH_take (i := 25) (oi := ?o25) (v := undef) ?h25 (by kernel_rfl) (by kernel_rfl) (by kernel_rfl) (fun _ _ _ h => h) ?y25 (by assumption) ?r25
  case h25 => (simp only [List.getElem?_toArray, List.getElem?_cons_zero, List.getElem?_cons_succ]; rfl)
  case y25 => exact Or.inr ⟨by rfl, rfl⟩
  simp only [Act.put, List.setIfInBounds_toArray, List.set_cons_zero, List.set_cons_succ]
  refine wpAnyH_take (i := 26) (oi := ?o26) (v := undef) ?h26 (by kernel_rfl) (by kernel_rfl) (by kernel_rfl) (fun _ _ _ h => h) ?y26 (by assumption) ?r26
  case h26 => (simp only [List.getElem?_toArray, List.getElem?_cons_zero, List.getElem?_cons_succ]; rfl)
  case y26 => exact Or.inr ⟨by rfl, rfl⟩
  simp only [Act.put, List.setIfInBounds_toArray, List.set_cons_zero, List.set_cons_succ]
  refine wpAnyH_take (i := 27) (oi := ?o27) (v := undef) ?h27 (by kernel_rfl) (by kernel_rfl) (by kernel_rfl) (fun _ _ _ h => h) ?y27 (by assumption) ?r27
  case h27 => (simp only [List.getElem?_toArray, List.getElem?_cons_zero, List.getElem?_cons_succ]; rfl)
  case y27 => exact Or.inr ⟨by rfl, rfl⟩
  simp only [Act.put, List.setIfInBounds_toArray, List.set_cons_zero, List.set_cons_succ]
  refine wpAnyH_take (i := 28) (oi := ?o28) (v := undef) ?h28 (by kernel_rfl) (by kernel_rfl) (by kernel_rfl) (fun _ _ _ h => h) ?y28 (by assumption) ?r28
  case h28 => (simp only [List.getElem?_toArray, List.getElem?_cons_zero, List.getElem?_cons_succ]; rfl)
  case y28 => exact Or.inr ⟨by rfl, rfl⟩
  simp only [Act.put, List.setIfInBounds_toArray, List.set_cons_zero, List.set_cons_succ]
  refine wpAnyH_take (i := 29) (oi := ?o29) (v := undef) ?h29 (by kernel_rfl) (by kernel_rfl) (by kernel_rfl) (fun _ _ _ h => h) ?y29 (by assumption) ?r29
  case h29 => (simp only [List.getElem?_toArray, List.getElem?_cons_zero, List.getElem?_cons_succ]; rfl)
  case y29 => exact Or.inr ⟨by rfl, rfl⟩
  simp only [Act.put, List.setIfInBounds_toArray, List.set_cons_zero, List.set_cons_succ]
  refine wpAnyH_take (i := 30) (oi := ?o30) (v := .bool false) ?h30 (by kernel_rfl) (by kernel_rfl) (by kernel_rfl) (fun _ _ _ h => h) ?y30 (by assumption) ?r30
  case h30 => (simp only [List.getElem?_toArray, List.getElem?_cons_zero, List.getElem?_cons_succ]; rfl)
  case y30 => exact Or.inl ⟨by rfl, by (intro W hSw; (try dsimp only at hSw); go_simp)⟩
  simp only [Act.put, List.setIfInBounds_toArray, List.set_cons_zero, List.set_cons_succ]
  refine wpAnyH_take (i := 31) (oi := ?o31) (v := .bool true) ?h31 (by kernel_rfl) (by kernel_rfl) (by kernel_rfl) (fun _ _ _ h => h) ?y31 (by assumption) ?r31
  case h31 => (simp only [List.getElem?_toArray, List.getElem?_cons_zero, List.getElem?_cons_succ]; rfl)
  case y31 => exact Or.inl ⟨by rfl, by (intro W hSw; (try dsimp only at hSw); go_simp)⟩
  simp only [Act.put, List.setIfInBounds_toArray, List.set_cons_zero, List.set_cons_succ]
  refine wpAnyH_take (i := 32) (oi := ?o32) (v := .bool true) ?h32 (by kernel_rfl) (by kernel_rfl) (by kernel_rfl) (fun _ _ _ h => h) ?y32 (by assumption) ?r32
  case h32 => (simp only [List.getElem?_toArray, List.getElem?_cons_zero, List.getElem?_cons_succ]; rfl)
  case y32 => exact Or.inl ⟨by rfl, by (intro W hSw; (try dsimp only at hSw); go_simp)⟩
  simp only [Act.put, List.setIfInBounds_toArray, List.set_cons_zero, List.set_cons_succ]
  refine wpAnyH_take (i := 33) (oi := ?o33) (v := .bool true) ?h33 (by kernel_rfl) (by kernel_rfl) (by kernel_rfl) (fun _ _ _ h => h) ?y33 (by assumption) ?r33
  case h33 => (simp only [List.getElem?_toArray, List.getElem?_cons_zero, List.getElem?_cons_succ]; rfl)
  case y33 => exact Or.inl ⟨by rfl, by (intro W hSw; (try dsimp only at hSw); go_simp)⟩
  simp only [Act.put, List.setIfInBounds_toArray, List.set_cons_zero, List.set_cons_succ]
  refine wpAnyH_done (by kernel_rfl) ?_ _
  refine NoPanic.normal ?_
  go_wp2
  go_ret
  exact ⟨rfl, f22.od⟩
end Go.Proofs.Ythdpiagnjakjiaa
