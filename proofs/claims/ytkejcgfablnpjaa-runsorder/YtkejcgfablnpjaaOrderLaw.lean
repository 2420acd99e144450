/-
  RunsOrder: whatever three items come in, the law answers true, and leaves all as it was. No conditions.
-/
import Derived.Test.YtkejcgfablnpjaaRLft
namespace Go.Proofs.Ytkejcgfablnpjaa
open Go.ChangeShapes Go.WideShapes Go.ChangeAt Go.RowKit Go.Joins Go.Deep

/-- Three items that lie in blocks of their own. -/
structure Tri (w W : World) (a b c : Itm) : Prop where
  od : Old w W
  ba : Bk W w.heap.size 45 (icells a)
  bb : Bk W (w.heap.size + 1) 45 (icells b)
  bc : Bk W (w.heap.size + 2) 45 (icells c)
theorem Tri.old {w W W' : World} {a b c : Itm} (h : Tri w W a b c) (o : Old W W') : Tri w W' a b c := ⟨h.od.tr o, h.ba.old o, h.bb.old o, h.bc.old o⟩
theorem Tri.new (w : World) (a b c : Itm) : Tri w (((w.alloc (.cells (icells a) 45)).alloc (.cells (icells b) 45)).alloc (.cells (icells c) 45)) a b c := by
  refine ⟨((Old.re _).al _).al _ |>.al _, ((new_bk _ _ _).alloc _).alloc _, (new_bk1 _ _ _ _).alloc _, ?_⟩
  have := new_bk1 (w.alloc (.cells (icells a) 45)) (.cells (icells b) 45) 45 (icells c)
  rwa [World.size_alloc] at this
theorem icmp_at (a b : Itm) (c : Int) (h : cmpI a b = c) (w : World) :
    Calls Try.prog 17 #[iv a, iv b] w fun e w' => e = .returned (.int .i64 c) ∧ Old w w' := by
  rw [← h]; exact icmp_any a b w

theorem Tri.held {w W : World} {a b c : Itm} (h : Tri w W a b c) : Tri w W a b c ∧ W.cell? ⟨w.heap.size, 0, none⟩ = some (.string (B a.c.row)) ∧ W.cell? ⟨w.heap.size, 1, none⟩ = some (.string (B a.c.col)) ∧ W.cell? ⟨w.heap.size, 2, none⟩ = some (.int .u64 a.c.ts) ∧ W.cell? ⟨w.heap.size, 3, none⟩ = some (.int .u64 a.c.seq) ∧ W.cell? ⟨w.heap.size, 4, none⟩ = some (.bool a.c.del) ∧ W.cell? ⟨w.heap.size, 5, none⟩ = some (.string (B a.c.val)) ∧ W.cell? ⟨w.heap.size, 6, none⟩ = some (.int .i64 a.pos) ∧ W.cell? ⟨w.heap.size + 1, 0, none⟩ = some (.string (B b.c.row)) ∧ W.cell? ⟨w.heap.size + 1, 1, none⟩ = some (.string (B b.c.col)) ∧ W.cell? ⟨w.heap.size + 1, 2, none⟩ = some (.int .u64 b.c.ts) ∧ W.cell? ⟨w.heap.size + 1, 3, none⟩ = some (.int .u64 b.c.seq) ∧ W.cell? ⟨w.heap.size + 1, 4, none⟩ = some (.bool b.c.del) ∧ W.cell? ⟨w.heap.size + 1, 5, none⟩ = some (.string (B b.c.val)) ∧ W.cell? ⟨w.heap.size + 1, 6, none⟩ = some (.int .i64 b.pos) ∧ W.cell? ⟨w.heap.size + 1 + 1, 0, none⟩ = some (.string (B c.c.row)) ∧ W.cell? ⟨w.heap.size + 1 + 1, 1, none⟩ = some (.string (B c.c.col)) ∧ W.cell? ⟨w.heap.size + 1 + 1, 2, none⟩ = some (.int .u64 c.c.ts) ∧ W.cell? ⟨w.heap.size + 1 + 1, 3, none⟩ = some (.int .u64 c.c.seq) ∧ W.cell? ⟨w.heap.size + 1 + 1, 4, none⟩ = some (.bool c.c.del) ∧ W.cell? ⟨w.heap.size + 1 + 1, 5, none⟩ = some (.string (B c.c.val)) ∧ W.cell? ⟨w.heap.size + 1 + 1, 6, none⟩ = some (.int .i64 c.pos) := by
  obtain ⟨a0, a1, a2, a3, a4, a5, a6⟩ := h.ba.seven
  obtain ⟨b0, b1, b2, b3, b4, b5, b6⟩ := h.bb.seven
  obtain ⟨c0, c1, c2, c3, c4, c5, c6⟩ := Bk.seven (show Bk W (w.heap.size + 1 + 1) 45 (icells c) from h.bc)
  exact ⟨h, a0, a1, a2, a3, a4, a5, a6, b0, b1, b2, b3, b4, b5, b6, c0, c1, c2, c3, c4, c5, c6⟩
theorem three_cels {w : World} {g : Nat} {x y z : Cel} (h : Bk w g 43 (flatC [x, y, z]).toArray) : Cels w (.slice (some ⟨g, 0, none⟩) 3 3) [x, y, z] := by
  refine .inr ⟨⟨g, 0, none⟩, 3, rfl, Nat.le_refl _, fun _ => ⟨g, 0, rfl, fun i c hc => ?_⟩⟩
  have k : ∀ j, j < 6 → w.cell? ⟨g, 0 + i * 6 + j, none⟩ = (cells c)[j]? := fun j hj => by
    rw [Bk.cell h, ← flatC_at _ i j c hc hj, Nat.zero_add]
    simp
  exact ⟨k 0 (by omega), k 1 (by omega), k 2 (by omega), k 3 (by omega), k 4 (by omega), k 5 (by omega)⟩
/-- When two items stand beside each other. -/
theorem cmpI_zero (a b : Itm) : cmpI a b = 0 ↔ a.c.row = b.c.row ∧ a.c.col = b.c.col ∧ a.c.ts = b.c.ts ∧ a.pos = b.pos := by
  have h := cmpK_zero a b
  constructor
  · intro h0
    rcases cmpI_cases a b with k | k | k | k | k <;> first | omega | skip
    obtain ⟨h1, h2, h3⟩ := h.1 k.1
    exact ⟨h1, h2, h3, k.2.1.symm⟩
  · rintro ⟨h1, h2, h3, h4⟩
    have hk := h.2 ⟨h1, h2, h3⟩
    rcases cmpI_cases a b with k | k | k | k | k <;> omega

set_option maxRecDepth 100000 in
set_option maxHeartbeats 16000000 in
theorem law_order (a b c : Itm) (w : World) :
    Calls Try.prog 7 #[iv a, iv b, iv c] w fun e w' => e = .returned (.bool true) ∧ Old w w' := by
  go_enter Try.func7, Try.ntmps7
  have f0 := Tri.new w a b c
  go_wp2_with fail
  have f1 := f0.old (old_alloc _ (.cells (flatC [a.c, b.c, c.c]).toArray 43))
  have hb3 := new_bk1 ((w.alloc (.cells (icells a) 45)).alloc (.cells (icells b) 45)) (.cells (icells c) 45) 43 (flatC [a.c, b.c, c.c]).toArray
  rw [World.size_alloc, World.size_alloc] at hb3
  refine (bounded_any _ _ [a.c, b.c, c.c] (three_cels hb3) (by simp [maxLen])).mono ?_
  rintro e w1 ⟨rfl, rfl⟩
  clear hb3 f0
  cases hb : boundedB [a.c, b.c, c.c] with
  | false =>
    go_wp2_with fail
    refine (shown_any _).mono ?_
    rintro e w2 ⟨rfl, o2⟩
    go_wp2
    go_ret
    exact ⟨rfl, f1.od.tr o2⟩
  | true =>
  clear hb
  go_wp2_with fail
  refine (shown_any _).mono ?_
  rintro e w2 ⟨rfl, o2⟩
  have ft := f1.old o2
  clear f1 o2
  obtain ⟨x, hx⟩ : ∃ x, cmpI a b = x := ⟨_, rfl⟩
  obtain ⟨y, hy⟩ : ∃ y, cmpI b c = y := ⟨_, rfl⟩
  obtain ⟨z, hz⟩ : ∃ z, cmpI a c = z := ⟨_, rfl⟩
  have HAB := Lib.hid fun W => icmp_at a b x hx W
  have HBA := Lib.hid fun W => icmp_at b a (-x) (by rw [cmpI_neg a b, hx]) W
  have HBC := Lib.hid fun W => icmp_at b c y hy W
  have HAC := Lib.hid fun W => icmp_at a c z hz W
  have hxv := cmpI_vals a b
  rw [hx] at hxv
  have n1 : IntKind.i64.wrap x = x := by rw [IntKind.wrap_i64]; omega
  have n2 : IntKind.i64.wrap (- -x) = x := by rw [Int.neg_neg]; exact n1
  have HZ := Lib.hid (cmpI_zero a b)
  rw [hx] at HZ
  have HT := Lib.hid (show x ≤ 0 → y ≤ 0 → z ≤ 0 from fun h1 h2 => by rw [← hz]; exact cmpI_trans (by rw [hx]; exact h1) (by rw [hy]; exact h2))
  clear hx hy hz hxv
  go_upto_region 3 with (fail)
  go_cut [46] from 21 to 46 (fun s wx => s = .bool false ∧ Tri w wx a b c)
  case first =>
    by_cases hx0 : x ≤ 0
    · have d1 : decide (x ≤ 0) = true := by simpa using hx0
      by_cases hy0 : y ≤ 0
      · have d2 : decide (y ≤ 0) = true := by simpa using hy0
        have d3 : decide (0 < z) = false := by have := HT.out hx0 hy0; simp; omega
        refine wp_region_noPanic ?_
        refine wp_region_held_drew (S := fun W => Tri w W a b c ∧ W.cell? ⟨w.heap.size, 0, none⟩ = some (.string (B a.c.row)) ∧ W.cell? ⟨w.heap.size, 1, none⟩ = some (.string (B a.c.col)) ∧ W.cell? ⟨w.heap.size, 2, none⟩ = some (.int .u64 a.c.ts) ∧ W.cell? ⟨w.heap.size, 3, none⟩ = some (.int .u64 a.c.seq) ∧ W.cell? ⟨w.heap.size, 4, none⟩ = some (.bool a.c.del) ∧ W.cell? ⟨w.heap.size, 5, none⟩ = some (.string (B a.c.val)) ∧ W.cell? ⟨w.heap.size, 6, none⟩ = some (.int .i64 a.pos) ∧ W.cell? ⟨w.heap.size + 1, 0, none⟩ = some (.string (B b.c.row)) ∧ W.cell? ⟨w.heap.size + 1, 1, none⟩ = some (.string (B b.c.col)) ∧ W.cell? ⟨w.heap.size + 1, 2, none⟩ = some (.int .u64 b.c.ts) ∧ W.cell? ⟨w.heap.size + 1, 3, none⟩ = some (.int .u64 b.c.seq) ∧ W.cell? ⟨w.heap.size + 1, 4, none⟩ = some (.bool b.c.del) ∧ W.cell? ⟨w.heap.size + 1, 5, none⟩ = some (.string (B b.c.val)) ∧ W.cell? ⟨w.heap.size + 1, 6, none⟩ = some (.int .i64 b.pos) ∧ W.cell? ⟨w.heap.size + 1 + 1, 0, none⟩ = some (.string (B c.c.row)) ∧ W.cell? ⟨w.heap.size + 1 + 1, 1, none⟩ = some (.string (B c.c.col)) ∧ W.cell? ⟨w.heap.size + 1 + 1, 2, none⟩ = some (.int .u64 c.c.ts) ∧ W.cell? ⟨w.heap.size + 1 + 1, 3, none⟩ = some (.int .u64 c.c.seq) ∧ W.cell? ⟨w.heap.size + 1 + 1, 4, none⟩ = some (.bool c.c.del) ∧ W.cell? ⟨w.heap.size + 1 + 1, 5, none⟩ = some (.string (B c.c.val)) ∧ W.cell? ⟨w.heap.size + 1 + 1, 6, none⟩ = some (.int .i64 c.pos)) (by kernel_rfl) (Tri.held (ft.old (Old.re _).dr)) (fun hHeld0 => ?_)
        refine wpAnyH_take (i := 0) (oi := ?op1q0) (v := iv a) ?hp1q0 (by kernel_rfl) (by kernel_rfl) (by kernel_rfl) (fun _ _ _ h => h) ?yp1q0 (by assumption) ?rp1q0
        case hp1q0 => (simp only [List.getElem?_toArray, List.getElem?_cons_zero]; rfl)
        case yp1q0 => exact Or.inl ⟨by rfl, by (intro W hSw; (try dsimp only at hSw); obtain ⟨s0, a0, a1, a2, a3, a4, a5, a6, b0, b1, b2, b3, b4, b5, b6, c0, c1, c2, c3, c4, c5, c6⟩ := hSw; go_simp)⟩
        simp only [Act.put, List.setIfInBounds_toArray, List.set_cons_zero, List.set_cons_succ]
        refine wpAnyH_take (i := 1) (oi := ?op1q1) (v := iv b) ?hp1q1 (by kernel_rfl) (by kernel_rfl) (by kernel_rfl) (fun _ _ _ h => h) ?yp1q1 (by assumption) ?rp1q1
        case hp1q1 => (simp only [List.getElem?_toArray, List.getElem?_cons_zero, List.getElem?_cons_succ]; rfl)
        case yp1q1 => exact Or.inl ⟨by rfl, by (intro W hSw; (try dsimp only at hSw); obtain ⟨s0, a0, a1, a2, a3, a4, a5, a6, b0, b1, b2, b3, b4, b5, b6, c0, c1, c2, c3, c4, c5, c6⟩ := hSw; go_simp)⟩
        simp only [Act.put, List.setIfInBounds_toArray, List.set_cons_zero, List.set_cons_succ]
        refine wpAnyH_take (i := 3) (oi := ?op1q3) (v := iv b) ?hp1q3 (by kernel_rfl) (by kernel_rfl) (by kernel_rfl) (fun _ _ _ h => h) ?yp1q3 (by assumption) ?rp1q3
        case hp1q3 => (simp only [List.getElem?_toArray, List.getElem?_cons_zero, List.getElem?_cons_succ]; rfl)
        case yp1q3 => exact Or.inl ⟨by rfl, by (intro W hSw; (try dsimp only at hSw); obtain ⟨s0, a0, a1, a2, a3, a4, a5, a6, b0, b1, b2, b3, b4, b5, b6, c0, c1, c2, c3, c4, c5, c6⟩ := hSw; go_simp)⟩
        simp only [Act.put, List.setIfInBounds_toArray, List.set_cons_zero, List.set_cons_succ]
        refine wpAnyH_take (i := 4) (oi := ?op1q4) (v := iv a) ?hp1q4 (by kernel_rfl) (by kernel_rfl) (by kernel_rfl) (fun _ _ _ h => h) ?yp1q4 (by assumption) ?rp1q4
        case hp1q4 => (simp only [List.getElem?_toArray, List.getElem?_cons_zero, List.getElem?_cons_succ]; rfl)
        case yp1q4 => exact Or.inl ⟨by rfl, by (intro W hSw; (try dsimp only at hSw); obtain ⟨s0, a0, a1, a2, a3, a4, a5, a6, b0, b1, b2, b3, b4, b5, b6, c0, c1, c2, c3, c4, c5, c6⟩ := hSw; go_simp)⟩
        simp only [Act.put, List.setIfInBounds_toArray, List.set_cons_zero, List.set_cons_succ]
        refine wpAnyH_ready (rs := [2]) (by kernel_rfl) (by simp) ?_
        refine AllReadyH.cons (o := ?op1q2) ?hp1q2 (fun K hK => ?rp1q2) AllReadyH.nil
        case hp1q2 => (simp only [List.getElem?_toArray, List.getElem?_cons_zero, List.getElem?_cons_succ]; rfl)
        go_simp
        refine (HAB.out _).mono ?_
        rintro r wc1 ⟨rfl, kc1⟩
        refine hK.out _ _ (Tri.held (hHeld0.1.old kc1)) (fun hHeld1 => ?_)
        clear hK K
        try simp only [Act.put, List.setIfInBounds_toArray, List.set_cons_zero, List.set_cons_succ]
        refine wpAnyH_ready (rs := [5]) (by kernel_rfl) (by simp) ?_
        refine AllReadyH.cons (o := ?op1q5) ?hp1q5 (fun K hK => ?rp1q5) AllReadyH.nil
        case hp1q5 => (simp only [List.getElem?_toArray, List.getElem?_cons_zero, List.getElem?_cons_succ]; rfl)
        go_simp
        refine (HBA.out _).mono ?_
        rintro r wc2 ⟨rfl, kc2⟩
        refine hK.out _ _ (Tri.held (hHeld1.1.old kc2)) (fun hHeld2 => ?_)
        clear hK K
        try simp only [Act.put, List.setIfInBounds_toArray, List.set_cons_zero, List.set_cons_succ]
        refine wpAnyH_take (i := 6) (oi := ?op1q6) (v := .int .i64 x) ?hp1q6 (by kernel_rfl) (by kernel_rfl) (by kernel_rfl) (fun _ _ _ h => h) ?yp1q6 (by assumption) ?rp1q6
        case hp1q6 => (simp only [List.getElem?_toArray, List.getElem?_cons_zero, List.getElem?_cons_succ]; rfl)
        case yp1q6 => exact Or.inl ⟨by rfl, by (intro W hSw; (try dsimp only at hSw); obtain ⟨s0, a0, a1, a2, a3, a4, a5, a6, b0, b1, b2, b3, b4, b5, b6, c0, c1, c2, c3, c4, c5, c6⟩ := hSw; go_simp)⟩
        simp only [Act.put, List.setIfInBounds_toArray, List.set_cons_zero, List.set_cons_succ]
        refine wpAnyH_take (i := 7) (oi := ?op1q7) (v := .bool false) ?hp1q7 (by kernel_rfl) (by kernel_rfl) (by kernel_rfl) (fun _ _ _ h => h) ?yp1q7 (by assumption) ?rp1q7
        case hp1q7 => (simp only [List.getElem?_toArray, List.getElem?_cons_zero, List.getElem?_cons_succ]; rfl)
        case yp1q7 => exact Or.inl ⟨by rfl, by (intro W hSw; (try dsimp only at hSw); obtain ⟨s0, a0, a1, a2, a3, a4, a5, a6, b0, b1, b2, b3, b4, b5, b6, c0, c1, c2, c3, c4, c5, c6⟩ := hSw; go_simp)⟩
        simp only [Act.put, List.setIfInBounds_toArray, List.set_cons_zero, List.set_cons_succ]
        refine wpAnyH_take (i := 8) (oi := ?op1q8) (v := .bool false) ?hp1q8 (by kernel_rfl) (by kernel_rfl) (by kernel_rfl) (fun _ _ _ h => h) ?yp1q8 (by assumption) ?rp1q8
        case hp1q8 => (simp only [List.getElem?_toArray, List.getElem?_cons_zero, List.getElem?_cons_succ]; rfl)
        case yp1q8 => exact Or.inl ⟨by rfl, by (intro W hSw; (try dsimp only at hSw); obtain ⟨s0, a0, a1, a2, a3, a4, a5, a6, b0, b1, b2, b3, b4, b5, b6, c0, c1, c2, c3, c4, c5, c6⟩ := hSw; go_simp)⟩
        simp only [Act.put, List.setIfInBounds_toArray, List.set_cons_zero, List.set_cons_succ]
        refine wpAnyH_take (i := 9) (oi := ?op1q9) (v := iv a) ?hp1q9 (by kernel_rfl) (by kernel_rfl) (by kernel_rfl) (fun _ _ _ h => h) ?yp1q9 (by assumption) ?rp1q9
        case hp1q9 => (simp only [List.getElem?_toArray, List.getElem?_cons_zero, List.getElem?_cons_succ]; rfl)
        case yp1q9 => exact Or.inl ⟨by rfl, by (intro W hSw; (try dsimp only at hSw); obtain ⟨s0, a0, a1, a2, a3, a4, a5, a6, b0, b1, b2, b3, b4, b5, b6, c0, c1, c2, c3, c4, c5, c6⟩ := hSw; go_simp)⟩
        simp only [Act.put, List.setIfInBounds_toArray, List.set_cons_zero, List.set_cons_succ]
        refine wpAnyH_take (i := 10) (oi := ?op1q10) (v := iv b) ?hp1q10 (by kernel_rfl) (by kernel_rfl) (by kernel_rfl) (fun _ _ _ h => h) ?yp1q10 (by assumption) ?rp1q10
        case hp1q10 => (simp only [List.getElem?_toArray, List.getElem?_cons_zero, List.getElem?_cons_succ]; rfl)
        case yp1q10 => exact Or.inl ⟨by rfl, by (intro W hSw; (try dsimp only at hSw); obtain ⟨s0, a0, a1, a2, a3, a4, a5, a6, b0, b1, b2, b3, b4, b5, b6, c0, c1, c2, c3, c4, c5, c6⟩ := hSw; go_simp)⟩
        simp only [Act.put, List.setIfInBounds_toArray, List.set_cons_zero, List.set_cons_succ]
        refine wpAnyH_ready (rs := [11]) (by kernel_rfl) (by simp) ?_
        refine AllReadyH.cons (o := ?op1q11) ?hp1q11 (fun K hK => ?rp1q11) AllReadyH.nil
        case hp1q11 => (simp only [List.getElem?_toArray, List.getElem?_cons_zero, List.getElem?_cons_succ]; rfl)
        go_simp
        refine (HAB.out _).mono ?_
        rintro r wc3 ⟨rfl, kc3⟩
        refine hK.out _ _ (Tri.held (hHeld2.1.old kc3)) (fun hHeld3 => ?_)
        clear hK K
        try simp only [Act.put, List.setIfInBounds_toArray, List.set_cons_zero, List.set_cons_succ]
        refine wpAnyH_take (i := 12) (oi := ?op1q12) (v := .bool true) ?hp1q12 (by kernel_rfl) (by kernel_rfl) (by kernel_rfl) (fun _ _ _ h => h) ?yp1q12 (by assumption) ?rp1q12
        case hp1q12 => (simp only [List.getElem?_toArray, List.getElem?_cons_zero, List.getElem?_cons_succ]; rfl)
        case yp1q12 => exact Or.inl ⟨by rfl, by (intro W hSw; (try dsimp only at hSw); obtain ⟨s0, a0, a1, a2, a3, a4, a5, a6, b0, b1, b2, b3, b4, b5, b6, c0, c1, c2, c3, c4, c5, c6⟩ := hSw; go_simp)⟩
        simp only [Act.put, List.setIfInBounds_toArray, List.set_cons_zero, List.set_cons_succ]
        refine wpAnyH_take (i := 13) (oi := ?op1q13) (v := .bool true) ?hp1q13 (by kernel_rfl) (by kernel_rfl) (by kernel_rfl) (fun _ _ _ h => h) ?yp1q13 (by assumption) ?rp1q13
        case hp1q13 => (simp only [List.getElem?_toArray, List.getElem?_cons_zero, List.getElem?_cons_succ]; rfl)
        case yp1q13 => exact Or.inl ⟨by rfl, by (intro W hSw; (try dsimp only at hSw); obtain ⟨s0, a0, a1, a2, a3, a4, a5, a6, b0, b1, b2, b3, b4, b5, b6, c0, c1, c2, c3, c4, c5, c6⟩ := hSw; go_simp)⟩
        simp only [Act.put, List.setIfInBounds_toArray, List.set_cons_zero, List.set_cons_succ]
        refine wpAnyH_take (i := 14) (oi := ?op1q14) (v := iv b) ?hp1q14 (by kernel_rfl) (by kernel_rfl) (by kernel_rfl) (fun _ _ _ h => h) ?yp1q14 (by assumption) ?rp1q14
        case hp1q14 => (simp only [List.getElem?_toArray, List.getElem?_cons_zero, List.getElem?_cons_succ]; rfl)
        case yp1q14 => exact Or.inl ⟨by rfl, by (intro W hSw; (try dsimp only at hSw); obtain ⟨s0, a0, a1, a2, a3, a4, a5, a6, b0, b1, b2, b3, b4, b5, b6, c0, c1, c2, c3, c4, c5, c6⟩ := hSw; go_simp)⟩
        simp only [Act.put, List.setIfInBounds_toArray, List.set_cons_zero, List.set_cons_succ]
        refine wpAnyH_take (i := 15) (oi := ?op1q15) (v := iv c) ?hp1q15 (by kernel_rfl) (by kernel_rfl) (by kernel_rfl) (fun _ _ _ h => h) ?yp1q15 (by assumption) ?rp1q15
        case hp1q15 => (simp only [List.getElem?_toArray, List.getElem?_cons_zero, List.getElem?_cons_succ]; rfl)
        case yp1q15 => exact Or.inl ⟨by rfl, by (intro W hSw; (try dsimp only at hSw); obtain ⟨s0, a0, a1, a2, a3, a4, a5, a6, b0, b1, b2, b3, b4, b5, b6, c0, c1, c2, c3, c4, c5, c6⟩ := hSw; go_simp)⟩
        simp only [Act.put, List.setIfInBounds_toArray, List.set_cons_zero, List.set_cons_succ]
        refine wpAnyH_ready (rs := [16]) (by kernel_rfl) (by simp) ?_
        refine AllReadyH.cons (o := ?op1q16) ?hp1q16 (fun K hK => ?rp1q16) AllReadyH.nil
        case hp1q16 => (simp only [List.getElem?_toArray, List.getElem?_cons_zero, List.getElem?_cons_succ]; rfl)
        go_simp
        refine (HBC.out _).mono ?_
        rintro r wc4 ⟨rfl, kc4⟩
        refine hK.out _ _ (Tri.held (hHeld3.1.old kc4)) (fun hHeld4 => ?_)
        clear hK K
        try simp only [Act.put, List.setIfInBounds_toArray, List.set_cons_zero, List.set_cons_succ]
        refine wpAnyH_take (i := 17) (oi := ?op1q17) (v := .bool true) ?hp1q17 (by kernel_rfl) (by kernel_rfl) (by kernel_rfl) (fun _ _ _ h => h) ?yp1q17 (by assumption) ?rp1q17
        case hp1q17 => (simp only [List.getElem?_toArray, List.getElem?_cons_zero, List.getElem?_cons_succ]; rfl)
        case yp1q17 => exact Or.inl ⟨by rfl, by (intro W hSw; (try dsimp only at hSw); obtain ⟨s0, a0, a1, a2, a3, a4, a5, a6, b0, b1, b2, b3, b4, b5, b6, c0, c1, c2, c3, c4, c5, c6⟩ := hSw; go_simp)⟩
        simp only [Act.put, List.setIfInBounds_toArray, List.set_cons_zero, List.set_cons_succ]
        refine wpAnyH_take (i := 18) (oi := ?op1q18) (v := .bool true) ?hp1q18 (by kernel_rfl) (by kernel_rfl) (by kernel_rfl) (fun _ _ _ h => h) ?yp1q18 (by assumption) ?rp1q18
        case hp1q18 => (simp only [List.getElem?_toArray, List.getElem?_cons_zero, List.getElem?_cons_succ]; rfl)
        case yp1q18 => exact Or.inl ⟨by rfl, by (intro W hSw; (try dsimp only at hSw); obtain ⟨s0, a0, a1, a2, a3, a4, a5, a6, b0, b1, b2, b3, b4, b5, b6, c0, c1, c2, c3, c4, c5, c6⟩ := hSw; go_simp)⟩
        simp only [Act.put, List.setIfInBounds_toArray, List.set_cons_zero, List.set_cons_succ]
        refine wpAnyH_take (i := 19) (oi := ?op1q19) (v := .bool true) ?hp1q19 (by kernel_rfl) (by kernel_rfl) (by kernel_rfl) (fun _ _ _ h => h) ?yp1q19 (by assumption) ?rp1q19
        case hp1q19 => (simp only [List.getElem?_toArray, List.getElem?_cons_zero, List.getElem?_cons_succ]; rfl)
        case yp1q19 => exact Or.inl ⟨by rfl, by (intro W hSw; (try dsimp only at hSw); obtain ⟨s0, a0, a1, a2, a3, a4, a5, a6, b0, b1, b2, b3, b4, b5, b6, c0, c1, c2, c3, c4, c5, c6⟩ := hSw; go_simp)⟩
        simp only [Act.put, List.setIfInBounds_toArray, List.set_cons_zero, List.set_cons_succ]
        refine wpAnyH_take (i := 20) (oi := ?op1q20) (v := iv a) ?hp1q20 (by kernel_rfl) (by kernel_rfl) (by kernel_rfl) (fun _ _ _ h => h) ?yp1q20 (by assumption) ?rp1q20
        case hp1q20 => (simp only [List.getElem?_toArray, List.getElem?_cons_zero, List.getElem?_cons_succ]; rfl)
        case yp1q20 => exact Or.inl ⟨by rfl, by (intro W hSw; (try dsimp only at hSw); obtain ⟨s0, a0, a1, a2, a3, a4, a5, a6, b0, b1, b2, b3, b4, b5, b6, c0, c1, c2, c3, c4, c5, c6⟩ := hSw; go_simp)⟩
        simp only [Act.put, List.setIfInBounds_toArray, List.set_cons_zero, List.set_cons_succ]
        refine wpAnyH_take (i := 21) (oi := ?op1q21) (v := iv c) ?hp1q21 (by kernel_rfl) (by kernel_rfl) (by kernel_rfl) (fun _ _ _ h => h) ?yp1q21 (by assumption) ?rp1q21
        case hp1q21 => (simp only [List.getElem?_toArray, List.getElem?_cons_zero, List.getElem?_cons_succ]; rfl)
        case yp1q21 => exact Or.inl ⟨by rfl, by (intro W hSw; (try dsimp only at hSw); obtain ⟨s0, a0, a1, a2, a3, a4, a5, a6, b0, b1, b2, b3, b4, b5, b6, c0, c1, c2, c3, c4, c5, c6⟩ := hSw; go_simp)⟩
        simp only [Act.put, List.setIfInBounds_toArray, List.set_cons_zero, List.set_cons_succ]
        refine wpAnyH_ready (rs := [22]) (by kernel_rfl) (by simp) ?_
        refine AllReadyH.cons (o := ?op1q22) ?hp1q22 (fun K hK => ?rp1q22) AllReadyH.nil
        case hp1q22 => (simp only [List.getElem?_toArray, List.getElem?_cons_zero, List.getElem?_cons_succ]; rfl)
        go_simp
        refine (HAC.out _).mono ?_
        rintro r wc5 ⟨rfl, kc5⟩
        refine hK.out _ _ (Tri.held (hHeld4.1.old kc5)) (fun hHeld5 => ?_)
        clear hK K
        try simp only [Act.put, List.setIfInBounds_toArray, List.set_cons_zero, List.set_cons_succ]
        refine wpAnyH_take (i := 23) (oi := ?op1q23) (v := .bool false) ?hp1q23 (by kernel_rfl) (by kernel_rfl) (by kernel_rfl) (fun _ _ _ h => h) ?yp1q23 (by assumption) ?rp1q23
        case hp1q23 => (simp only [List.getElem?_toArray, List.getElem?_cons_zero, List.getElem?_cons_succ]; rfl)
        case yp1q23 => exact Or.inl ⟨by rfl, by (intro W hSw; (try dsimp only at hSw); obtain ⟨s0, a0, a1, a2, a3, a4, a5, a6, b0, b1, b2, b3, b4, b5, b6, c0, c1, c2, c3, c4, c5, c6⟩ := hSw; go_simp)⟩
        simp only [Act.put, List.setIfInBounds_toArray, List.set_cons_zero, List.set_cons_succ]
        refine wpAnyH_take (i := 24) (oi := ?op1q24) (v := .bool false) ?hp1q24 (by kernel_rfl) (by kernel_rfl) (by kernel_rfl) (fun _ _ _ h => h) ?yp1q24 (by assumption) ?rp1q24
        case hp1q24 => (simp only [List.getElem?_toArray, List.getElem?_cons_zero, List.getElem?_cons_succ]; rfl)
        case yp1q24 => exact Or.inl ⟨by rfl, by (intro W hSw; (try dsimp only at hSw); obtain ⟨s0, a0, a1, a2, a3, a4, a5, a6, b0, b1, b2, b3, b4, b5, b6, c0, c1, c2, c3, c4, c5, c6⟩ := hSw; go_simp)⟩
        simp only [Act.put, List.setIfInBounds_toArray, List.set_cons_zero, List.set_cons_succ]
        refine wpAnyH_take (i := 25) (oi := ?op1q25) (v := .bool false) ?hp1q25 (by kernel_rfl) (by kernel_rfl) (by kernel_rfl) (fun _ _ _ h => h) ?yp1q25 (by assumption) ?rp1q25
        case hp1q25 => (simp only [List.getElem?_toArray, List.getElem?_cons_zero, List.getElem?_cons_succ]; rfl)
        case yp1q25 => exact Or.inl ⟨by rfl, by (intro W hSw; (try dsimp only at hSw); obtain ⟨s0, a0, a1, a2, a3, a4, a5, a6, b0, b1, b2, b3, b4, b5, b6, c0, c1, c2, c3, c4, c5, c6⟩ := hSw; go_simp)⟩
        simp only [Act.put, List.setIfInBounds_toArray, List.set_cons_zero, List.set_cons_succ]
        refine wpAnyH_done (by kernel_rfl) ?_ _
        refine NoPanic.normal ?_
        have ft2 := hHeld5.1
        clear hHeld0 hHeld1 hHeld2 hHeld3 hHeld4 hHeld5 ft
        go_wp2_with fail
        go_meet
        exact ⟨rfl, ft2⟩
      · have d2 : decide (y ≤ 0) = false := by simpa using hy0
        refine wp_region_noPanic ?_
        refine wp_region_held_drew (S := fun W => Tri w W a b c ∧ W.cell? ⟨w.heap.size, 0, none⟩ = some (.string (B a.c.row)) ∧ W.cell? ⟨w.heap.size, 1, none⟩ = some (.string (B a.c.col)) ∧ W.cell? ⟨w.heap.size, 2, none⟩ = some (.int .u64 a.c.ts) ∧ W.cell? ⟨w.heap.size, 3, none⟩ = some (.int .u64 a.c.seq) ∧ W.cell? ⟨w.heap.size, 4, none⟩ = some (.bool a.c.del) ∧ W.cell? ⟨w.heap.size, 5, none⟩ = some (.string (B a.c.val)) ∧ W.cell? ⟨w.heap.size, 6, none⟩ = some (.int .i64 a.pos) ∧ W.cell? ⟨w.heap.size + 1, 0, none⟩ = some (.string (B b.c.row)) ∧ W.cell? ⟨w.heap.size + 1, 1, none⟩ = some (.string (B b.c.col)) ∧ W.cell? ⟨w.heap.size + 1, 2, none⟩ = some (.int .u64 b.c.ts) ∧ W.cell? ⟨w.heap.size + 1, 3, none⟩ = some (.int .u64 b.c.seq) ∧ W.cell? ⟨w.heap.size + 1, 4, none⟩ = some (.bool b.c.del) ∧ W.cell? ⟨w.heap.size + 1, 5, none⟩ = some (.string (B b.c.val)) ∧ W.cell? ⟨w.heap.size + 1, 6, none⟩ = some (.int .i64 b.pos) ∧ W.cell? ⟨w.heap.size + 1 + 1, 0, none⟩ = some (.string (B c.c.row)) ∧ W.cell? ⟨w.heap.size + 1 + 1, 1, none⟩ = some (.string (B c.c.col)) ∧ W.cell? ⟨w.heap.size + 1 + 1, 2, none⟩ = some (.int .u64 c.c.ts) ∧ W.cell? ⟨w.heap.size + 1 + 1, 3, none⟩ = some (.int .u64 c.c.seq) ∧ W.cell? ⟨w.heap.size + 1 + 1, 4, none⟩ = some (.bool c.c.del) ∧ W.cell? ⟨w.heap.size + 1 + 1, 5, none⟩ = some (.string (B c.c.val)) ∧ W.cell? ⟨w.heap.size + 1 + 1, 6, none⟩ = some (.int .i64 c.pos)) (by kernel_rfl) (Tri.held (ft.old (Old.re _).dr)) (fun hHeld0 => ?_)
        refine wpAnyH_take (i := 0) (oi := ?op2q0) (v := iv a) ?hp2q0 (by kernel_rfl) (by kernel_rfl) (by kernel_rfl) (fun _ _ _ h => h) ?yp2q0 (by assumption) ?rp2q0
        case hp2q0 => (simp only [List.getElem?_toArray, List.getElem?_cons_zero]; rfl)
        case yp2q0 => exact Or.inl ⟨by rfl, by (intro W hSw; (try dsimp only at hSw); obtain ⟨s0, a0, a1, a2, a3, a4, a5, a6, b0, b1, b2, b3, b4, b5, b6, c0, c1, c2, c3, c4, c5, c6⟩ := hSw; go_simp)⟩
        simp only [Act.put, List.setIfInBounds_toArray, List.set_cons_zero, List.set_cons_succ]
        refine wpAnyH_take (i := 1) (oi := ?op2q1) (v := iv b) ?hp2q1 (by kernel_rfl) (by kernel_rfl) (by kernel_rfl) (fun _ _ _ h => h) ?yp2q1 (by assumption) ?rp2q1
        case hp2q1 => (simp only [List.getElem?_toArray, List.getElem?_cons_zero, List.getElem?_cons_succ]; rfl)
        case yp2q1 => exact Or.inl ⟨by rfl, by (intro W hSw; (try dsimp only at hSw); obtain ⟨s0, a0, a1, a2, a3, a4, a5, a6, b0, b1, b2, b3, b4, b5, b6, c0, c1, c2, c3, c4, c5, c6⟩ := hSw; go_simp)⟩
        simp only [Act.put, List.setIfInBounds_toArray, List.set_cons_zero, List.set_cons_succ]
        refine wpAnyH_take (i := 3) (oi := ?op2q3) (v := iv b) ?hp2q3 (by kernel_rfl) (by kernel_rfl) (by kernel_rfl) (fun _ _ _ h => h) ?yp2q3 (by assumption) ?rp2q3
        case hp2q3 => (simp only [List.getElem?_toArray, List.getElem?_cons_zero, List.getElem?_cons_succ]; rfl)
        case yp2q3 => exact Or.inl ⟨by rfl, by (intro W hSw; (try dsimp only at hSw); obtain ⟨s0, a0, a1, a2, a3, a4, a5, a6, b0, b1, b2, b3, b4, b5, b6, c0, c1, c2, c3, c4, c5, c6⟩ := hSw; go_simp)⟩
        simp only [Act.put, List.setIfInBounds_toArray, List.set_cons_zero, List.set_cons_succ]
        refine wpAnyH_take (i := 4) (oi := ?op2q4) (v := iv a) ?hp2q4 (by kernel_rfl) (by kernel_rfl) (by kernel_rfl) (fun _ _ _ h => h) ?yp2q4 (by assumption) ?rp2q4
        case hp2q4 => (simp only [List.getElem?_toArray, List.getElem?_cons_zero, List.getElem?_cons_succ]; rfl)
        case yp2q4 => exact Or.inl ⟨by rfl, by (intro W hSw; (try dsimp only at hSw); obtain ⟨s0, a0, a1, a2, a3, a4, a5, a6, b0, b1, b2, b3, b4, b5, b6, c0, c1, c2, c3, c4, c5, c6⟩ := hSw; go_simp)⟩
        simp only [Act.put, List.setIfInBounds_toArray, List.set_cons_zero, List.set_cons_succ]
        refine wpAnyH_ready (rs := [2]) (by kernel_rfl) (by simp) ?_
        refine AllReadyH.cons (o := ?op2q2) ?hp2q2 (fun K hK => ?rp2q2) AllReadyH.nil
        case hp2q2 => (simp only [List.getElem?_toArray, List.getElem?_cons_zero, List.getElem?_cons_succ]; rfl)
        go_simp
        refine (HAB.out _).mono ?_
        rintro r wc1 ⟨rfl, kc1⟩
        refine hK.out _ _ (Tri.held (hHeld0.1.old kc1)) (fun hHeld1 => ?_)
        clear hK K
        try simp only [Act.put, List.setIfInBounds_toArray, List.set_cons_zero, List.set_cons_succ]
        refine wpAnyH_ready (rs := [5]) (by kernel_rfl) (by simp) ?_
        refine AllReadyH.cons (o := ?op2q5) ?hp2q5 (fun K hK => ?rp2q5) AllReadyH.nil
        case hp2q5 => (simp only [List.getElem?_toArray, List.getElem?_cons_zero, List.getElem?_cons_succ]; rfl)
        go_simp
        refine (HBA.out _).mono ?_
        rintro r wc2 ⟨rfl, kc2⟩
        refine hK.out _ _ (Tri.held (hHeld1.1.old kc2)) (fun hHeld2 => ?_)
        clear hK K
        try simp only [Act.put, List.setIfInBounds_toArray, List.set_cons_zero, List.set_cons_succ]
        refine wpAnyH_take (i := 6) (oi := ?op2q6) (v := .int .i64 x) ?hp2q6 (by kernel_rfl) (by kernel_rfl) (by kernel_rfl) (fun _ _ _ h => h) ?yp2q6 (by assumption) ?rp2q6
        case hp2q6 => (simp only [List.getElem?_toArray, List.getElem?_cons_zero, List.getElem?_cons_succ]; rfl)
        case yp2q6 => exact Or.inl ⟨by rfl, by (intro W hSw; (try dsimp only at hSw); obtain ⟨s0, a0, a1, a2, a3, a4, a5, a6, b0, b1, b2, b3, b4, b5, b6, c0, c1, c2, c3, c4, c5, c6⟩ := hSw; go_simp)⟩
        simp only [Act.put, List.setIfInBounds_toArray, List.set_cons_zero, List.set_cons_succ]
        refine wpAnyH_take (i := 7) (oi := ?op2q7) (v := .bool false) ?hp2q7 (by kernel_rfl) (by kernel_rfl) (by kernel_rfl) (fun _ _ _ h => h) ?yp2q7 (by assumption) ?rp2q7
        case hp2q7 => (simp only [List.getElem?_toArray, List.getElem?_cons_zero, List.getElem?_cons_succ]; rfl)
        case yp2q7 => exact Or.inl ⟨by rfl, by (intro W hSw; (try dsimp only at hSw); obtain ⟨s0, a0, a1, a2, a3, a4, a5, a6, b0, b1, b2, b3, b4, b5, b6, c0, c1, c2, c3, c4, c5, c6⟩ := hSw; go_simp)⟩
        simp only [Act.put, List.setIfInBounds_toArray, List.set_cons_zero, List.set_cons_succ]
        refine wpAnyH_take (i := 8) (oi := ?op2q8) (v := .bool false) ?hp2q8 (by kernel_rfl) (by kernel_rfl) (by kernel_rfl) (fun _ _ _ h => h) ?yp2q8 (by assumption) ?rp2q8
        case hp2q8 => (simp only [List.getElem?_toArray, List.getElem?_cons_zero, List.getElem?_cons_succ]; rfl)
        case yp2q8 => exact Or.inl ⟨by rfl, by (intro W hSw; (try dsimp only at hSw); obtain ⟨s0, a0, a1, a2, a3, a4, a5, a6, b0, b1, b2, b3, b4, b5, b6, c0, c1, c2, c3, c4, c5, c6⟩ := hSw; go_simp)⟩
        simp only [Act.put, List.setIfInBounds_toArray, List.set_cons_zero, List.set_cons_succ]
        refine wpAnyH_take (i := 9) (oi := ?op2q9) (v := iv a) ?hp2q9 (by kernel_rfl) (by kernel_rfl) (by kernel_rfl) (fun _ _ _ h => h) ?yp2q9 (by assumption) ?rp2q9
        case hp2q9 => (simp only [List.getElem?_toArray, List.getElem?_cons_zero, List.getElem?_cons_succ]; rfl)
        case yp2q9 => exact Or.inl ⟨by rfl, by (intro W hSw; (try dsimp only at hSw); obtain ⟨s0, a0, a1, a2, a3, a4, a5, a6, b0, b1, b2, b3, b4, b5, b6, c0, c1, c2, c3, c4, c5, c6⟩ := hSw; go_simp)⟩
        simp only [Act.put, List.setIfInBounds_toArray, List.set_cons_zero, List.set_cons_succ]
        refine wpAnyH_take (i := 10) (oi := ?op2q10) (v := iv b) ?hp2q10 (by kernel_rfl) (by kernel_rfl) (by kernel_rfl) (fun _ _ _ h => h) ?yp2q10 (by assumption) ?rp2q10
        case hp2q10 => (simp only [List.getElem?_toArray, List.getElem?_cons_zero, List.getElem?_cons_succ]; rfl)
        case yp2q10 => exact Or.inl ⟨by rfl, by (intro W hSw; (try dsimp only at hSw); obtain ⟨s0, a0, a1, a2, a3, a4, a5, a6, b0, b1, b2, b3, b4, b5, b6, c0, c1, c2, c3, c4, c5, c6⟩ := hSw; go_simp)⟩
        simp only [Act.put, List.setIfInBounds_toArray, List.set_cons_zero, List.set_cons_succ]
        refine wpAnyH_ready (rs := [11]) (by kernel_rfl) (by simp) ?_
        refine AllReadyH.cons (o := ?op2q11) ?hp2q11 (fun K hK => ?rp2q11) AllReadyH.nil
        case hp2q11 => (simp only [List.getElem?_toArray, List.getElem?_cons_zero, List.getElem?_cons_succ]; rfl)
        go_simp
        refine (HAB.out _).mono ?_
        rintro r wc3 ⟨rfl, kc3⟩
        refine hK.out _ _ (Tri.held (hHeld2.1.old kc3)) (fun hHeld3 => ?_)
        clear hK K
        try simp only [Act.put, List.setIfInBounds_toArray, List.set_cons_zero, List.set_cons_succ]
        refine wpAnyH_take (i := 12) (oi := ?op2q12) (v := .bool true) ?hp2q12 (by kernel_rfl) (by kernel_rfl) (by kernel_rfl) (fun _ _ _ h => h) ?yp2q12 (by assumption) ?rp2q12
        case hp2q12 => (simp only [List.getElem?_toArray, List.getElem?_cons_zero, List.getElem?_cons_succ]; rfl)
        case yp2q12 => exact Or.inl ⟨by rfl, by (intro W hSw; (try dsimp only at hSw); obtain ⟨s0, a0, a1, a2, a3, a4, a5, a6, b0, b1, b2, b3, b4, b5, b6, c0, c1, c2, c3, c4, c5, c6⟩ := hSw; go_simp)⟩
        simp only [Act.put, List.setIfInBounds_toArray, List.set_cons_zero, List.set_cons_succ]
        refine wpAnyH_take (i := 13) (oi := ?op2q13) (v := .bool true) ?hp2q13 (by kernel_rfl) (by kernel_rfl) (by kernel_rfl) (fun _ _ _ h => h) ?yp2q13 (by assumption) ?rp2q13
        case hp2q13 => (simp only [List.getElem?_toArray, List.getElem?_cons_zero, List.getElem?_cons_succ]; rfl)
        case yp2q13 => exact Or.inl ⟨by rfl, by (intro W hSw; (try dsimp only at hSw); obtain ⟨s0, a0, a1, a2, a3, a4, a5, a6, b0, b1, b2, b3, b4, b5, b6, c0, c1, c2, c3, c4, c5, c6⟩ := hSw; go_simp)⟩
        simp only [Act.put, List.setIfInBounds_toArray, List.set_cons_zero, List.set_cons_succ]
        refine wpAnyH_take (i := 14) (oi := ?op2q14) (v := iv b) ?hp2q14 (by kernel_rfl) (by kernel_rfl) (by kernel_rfl) (fun _ _ _ h => h) ?yp2q14 (by assumption) ?rp2q14
        case hp2q14 => (simp only [List.getElem?_toArray, List.getElem?_cons_zero, List.getElem?_cons_succ]; rfl)
        case yp2q14 => exact Or.inl ⟨by rfl, by (intro W hSw; (try dsimp only at hSw); obtain ⟨s0, a0, a1, a2, a3, a4, a5, a6, b0, b1, b2, b3, b4, b5, b6, c0, c1, c2, c3, c4, c5, c6⟩ := hSw; go_simp)⟩
        simp only [Act.put, List.setIfInBounds_toArray, List.set_cons_zero, List.set_cons_succ]
        refine wpAnyH_take (i := 15) (oi := ?op2q15) (v := iv c) ?hp2q15 (by kernel_rfl) (by kernel_rfl) (by kernel_rfl) (fun _ _ _ h => h) ?yp2q15 (by assumption) ?rp2q15
        case hp2q15 => (simp only [List.getElem?_toArray, List.getElem?_cons_zero, List.getElem?_cons_succ]; rfl)
        case yp2q15 => exact Or.inl ⟨by rfl, by (intro W hSw; (try dsimp only at hSw); obtain ⟨s0, a0, a1, a2, a3, a4, a5, a6, b0, b1, b2, b3, b4, b5, b6, c0, c1, c2, c3, c4, c5, c6⟩ := hSw; go_simp)⟩
        simp only [Act.put, List.setIfInBounds_toArray, List.set_cons_zero, List.set_cons_succ]
        refine wpAnyH_ready (rs := [16]) (by kernel_rfl) (by simp) ?_
        refine AllReadyH.cons (o := ?op2q16) ?hp2q16 (fun K hK => ?rp2q16) AllReadyH.nil
        case hp2q16 => (simp only [List.getElem?_toArray, List.getElem?_cons_zero, List.getElem?_cons_succ]; rfl)
        go_simp
        refine (HBC.out _).mono ?_
        rintro r wc4 ⟨rfl, kc4⟩
        refine hK.out _ _ (Tri.held (hHeld3.1.old kc4)) (fun hHeld4 => ?_)
        clear hK K
        try simp only [Act.put, List.setIfInBounds_toArray, List.set_cons_zero, List.set_cons_succ]
        refine wpAnyH_take (i := 17) (oi := ?op2q17) (v := .bool false) ?hp2q17 (by kernel_rfl) (by kernel_rfl) (by kernel_rfl) (fun _ _ _ h => h) ?yp2q17 (by assumption) ?rp2q17
        case hp2q17 => (simp only [List.getElem?_toArray, List.getElem?_cons_zero, List.getElem?_cons_succ]; rfl)
        case yp2q17 => exact Or.inl ⟨by rfl, by (intro W hSw; (try dsimp only at hSw); obtain ⟨s0, a0, a1, a2, a3, a4, a5, a6, b0, b1, b2, b3, b4, b5, b6, c0, c1, c2, c3, c4, c5, c6⟩ := hSw; go_simp)⟩
        simp only [Act.put, List.setIfInBounds_toArray, List.set_cons_zero, List.set_cons_succ]
        refine wpAnyH_take (i := 18) (oi := ?op2q18) (v := .bool false) ?hp2q18 (by kernel_rfl) (by kernel_rfl) (by kernel_rfl) (fun _ _ _ h => h) ?yp2q18 (by assumption) ?rp2q18
        case hp2q18 => (simp only [List.getElem?_toArray, List.getElem?_cons_zero, List.getElem?_cons_succ]; rfl)
        case yp2q18 => exact Or.inl ⟨by rfl, by (intro W hSw; (try dsimp only at hSw); obtain ⟨s0, a0, a1, a2, a3, a4, a5, a6, b0, b1, b2, b3, b4, b5, b6, c0, c1, c2, c3, c4, c5, c6⟩ := hSw; go_simp)⟩
        simp only [Act.put, List.setIfInBounds_toArray, List.set_cons_zero, List.set_cons_succ]
        refine wpAnyH_take (i := 19) (oi := ?op2q19) (v := .bool false) ?hp2q19 (by kernel_rfl) (by kernel_rfl) (by kernel_rfl) (fun _ _ _ h => h) ?yp2q19 (by assumption) ?rp2q19
        case hp2q19 => (simp only [List.getElem?_toArray, List.getElem?_cons_zero, List.getElem?_cons_succ]; rfl)
        case yp2q19 => exact Or.inl ⟨by rfl, by (intro W hSw; (try dsimp only at hSw); obtain ⟨s0, a0, a1, a2, a3, a4, a5, a6, b0, b1, b2, b3, b4, b5, b6, c0, c1, c2, c3, c4, c5, c6⟩ := hSw; go_simp)⟩
        simp only [Act.put, List.setIfInBounds_toArray, List.set_cons_zero, List.set_cons_succ]
        refine wpAnyH_take (i := 20) (oi := ?op2q20) (v := undef) ?hp2q20 (by kernel_rfl) (by kernel_rfl) (by kernel_rfl) (fun _ _ _ h => h) ?yp2q20 (by assumption) ?rp2q20
        case hp2q20 => (simp only [List.getElem?_toArray, List.getElem?_cons_zero, List.getElem?_cons_succ]; rfl)
        case yp2q20 => exact Or.inr ⟨by rfl, rfl⟩
        simp only [Act.put, List.setIfInBounds_toArray, List.set_cons_zero, List.set_cons_succ]
        refine wpAnyH_take (i := 21) (oi := ?op2q21) (v := undef) ?hp2q21 (by kernel_rfl) (by kernel_rfl) (by kernel_rfl) (fun _ _ _ h => h) ?yp2q21 (by assumption) ?rp2q21
        case hp2q21 => (simp only [List.getElem?_toArray, List.getElem?_cons_zero, List.getElem?_cons_succ]; rfl)
        case yp2q21 => exact Or.inr ⟨by rfl, rfl⟩
        simp only [Act.put, List.setIfInBounds_toArray, List.set_cons_zero, List.set_cons_succ]
        refine wpAnyH_take (i := 22) (oi := ?op2q22) (v := undef) ?hp2q22 (by kernel_rfl) (by kernel_rfl) (by kernel_rfl) (fun _ _ _ h => h) ?yp2q22 (by assumption) ?rp2q22
        case hp2q22 => (simp only [List.getElem?_toArray, List.getElem?_cons_zero, List.getElem?_cons_succ]; rfl)
        case yp2q22 => exact Or.inr ⟨by rfl, rfl⟩
        simp only [Act.put, List.setIfInBounds_toArray, List.set_cons_zero, List.set_cons_succ]
        refine wpAnyH_take (i := 23) (oi := ?op2q23) (v := undef) ?hp2q23 (by kernel_rfl) (by kernel_rfl) (by kernel_rfl) (fun _ _ _ h => h) ?yp2q23 (by assumption) ?rp2q23
        case hp2q23 => (simp only [List.getElem?_toArray, List.getElem?_cons_zero, List.getElem?_cons_succ]; rfl)
        case yp2q23 => exact Or.inr ⟨by rfl, rfl⟩
        simp only [Act.put, List.setIfInBounds_toArray, List.set_cons_zero, List.set_cons_succ]
        refine wpAnyH_take (i := 24) (oi := ?op2q24) (v := .bool false) ?hp2q24 (by kernel_rfl) (by kernel_rfl) (by kernel_rfl) (fun _ _ _ h => h) ?yp2q24 (by assumption) ?rp2q24
        case hp2q24 => (simp only [List.getElem?_toArray, List.getElem?_cons_zero, List.getElem?_cons_succ]; rfl)
        case yp2q24 => exact Or.inl ⟨by rfl, by (intro W hSw; (try dsimp only at hSw); obtain ⟨s0, a0, a1, a2, a3, a4, a5, a6, b0, b1, b2, b3, b4, b5, b6, c0, c1, c2, c3, c4, c5, c6⟩ := hSw; go_simp)⟩
        simp only [Act.put, List.setIfInBounds_toArray, List.set_cons_zero, List.set_cons_succ]
        refine wpAnyH_take (i := 25) (oi := ?op2q25) (v := .bool false) ?hp2q25 (by kernel_rfl) (by kernel_rfl) (by kernel_rfl) (fun _ _ _ h => h) ?yp2q25 (by assumption) ?rp2q25
        case hp2q25 => (simp only [List.getElem?_toArray, List.getElem?_cons_zero, List.getElem?_cons_succ]; rfl)
        case yp2q25 => exact Or.inl ⟨by rfl, by (intro W hSw; (try dsimp only at hSw); obtain ⟨s0, a0, a1, a2, a3, a4, a5, a6, b0, b1, b2, b3, b4, b5, b6, c0, c1, c2, c3, c4, c5, c6⟩ := hSw; go_simp)⟩
        simp only [Act.put, List.setIfInBounds_toArray, List.set_cons_zero, List.set_cons_succ]
        refine wpAnyH_done (by kernel_rfl) ?_ _
        refine NoPanic.normal ?_
        have ft2 := hHeld4.1
        clear hHeld0 hHeld1 hHeld2 hHeld3 hHeld4 ft
        go_wp2_with fail
        go_meet
        exact ⟨rfl, ft2⟩
    · have d1 : decide (x ≤ 0) = false := by simpa using hx0
      refine wp_region_noPanic ?_
      refine wp_region_held_drew (S := fun W => Tri w W a b c ∧ W.cell? ⟨w.heap.size, 0, none⟩ = some (.string (B a.c.row)) ∧ W.cell? ⟨w.heap.size, 1, none⟩ = some (.string (B a.c.col)) ∧ W.cell? ⟨w.heap.size, 2, none⟩ = some (.int .u64 a.c.ts) ∧ W.cell? ⟨w.heap.size, 3, none⟩ = some (.int .u64 a.c.seq) ∧ W.cell? ⟨w.heap.size, 4, none⟩ = some (.bool a.c.del) ∧ W.cell? ⟨w.heap.size, 5, none⟩ = some (.string (B a.c.val)) ∧ W.cell? ⟨w.heap.size, 6, none⟩ = some (.int .i64 a.pos) ∧ W.cell? ⟨w.heap.size + 1, 0, none⟩ = some (.string (B b.c.row)) ∧ W.cell? ⟨w.heap.size + 1, 1, none⟩ = some (.string (B b.c.col)) ∧ W.cell? ⟨w.heap.size + 1, 2, none⟩ = some (.int .u64 b.c.ts) ∧ W.cell? ⟨w.heap.size + 1, 3, none⟩ = some (.int .u64 b.c.seq) ∧ W.cell? ⟨w.heap.size + 1, 4, none⟩ = some (.bool b.c.del) ∧ W.cell? ⟨w.heap.size + 1, 5, none⟩ = some (.string (B b.c.val)) ∧ W.cell? ⟨w.heap.size + 1, 6, none⟩ = some (.int .i64 b.pos) ∧ W.cell? ⟨w.heap.size + 1 + 1, 0, none⟩ = some (.string (B c.c.row)) ∧ W.cell? ⟨w.heap.size + 1 + 1, 1, none⟩ = some (.string (B c.c.col)) ∧ W.cell? ⟨w.heap.size + 1 + 1, 2, none⟩ = some (.int .u64 c.c.ts) ∧ W.cell? ⟨w.heap.size + 1 + 1, 3, none⟩ = some (.int .u64 c.c.seq) ∧ W.cell? ⟨w.heap.size + 1 + 1, 4, none⟩ = some (.bool c.c.del) ∧ W.cell? ⟨w.heap.size + 1 + 1, 5, none⟩ = some (.string (B c.c.val)) ∧ W.cell? ⟨w.heap.size + 1 + 1, 6, none⟩ = some (.int .i64 c.pos)) (by kernel_rfl) (Tri.held (ft.old (Old.re _).dr)) (fun hHeld0 => ?_)
      refine wpAnyH_take (i := 0) (oi := ?op3q0) (v := iv a) ?hp3q0 (by kernel_rfl) (by kernel_rfl) (by kernel_rfl) (fun _ _ _ h => h) ?yp3q0 (by assumption) ?rp3q0
      case hp3q0 => (simp only [List.getElem?_toArray, List.getElem?_cons_zero]; rfl)
      case yp3q0 => exact Or.inl ⟨by rfl, by (intro W hSw; (try dsimp only at hSw); obtain ⟨s0, a0, a1, a2, a3, a4, a5, a6, b0, b1, b2, b3, b4, b5, b6, c0, c1, c2, c3, c4, c5, c6⟩ := hSw; go_simp)⟩
      simp only [Act.put, List.setIfInBounds_toArray, List.set_cons_zero, List.set_cons_succ]
      refine wpAnyH_take (i := 1) (oi := ?op3q1) (v := iv b) ?hp3q1 (by kernel_rfl) (by kernel_rfl) (by kernel_rfl) (fun _ _ _ h => h) ?yp3q1 (by assumption) ?rp3q1
      case hp3q1 => (simp only [List.getElem?_toArray, List.getElem?_cons_zero, List.getElem?_cons_succ]; rfl)
      case yp3q1 => exact Or.inl ⟨by rfl, by (intro W hSw; (try dsimp only at hSw); obtain ⟨s0, a0, a1, a2, a3, a4, a5, a6, b0, b1, b2, b3, b4, b5, b6, c0, c1, c2, c3, c4, c5, c6⟩ := hSw; go_simp)⟩
      simp only [Act.put, List.setIfInBounds_toArray, List.set_cons_zero, List.set_cons_succ]
      refine wpAnyH_take (i := 3) (oi := ?op3q3) (v := iv b) ?hp3q3 (by kernel_rfl) (by kernel_rfl) (by kernel_rfl) (fun _ _ _ h => h) ?yp3q3 (by assumption) ?rp3q3
      case hp3q3 => (simp only [List.getElem?_toArray, List.getElem?_cons_zero, List.getElem?_cons_succ]; rfl)
      case yp3q3 => exact Or.inl ⟨by rfl, by (intro W hSw; (try dsimp only at hSw); obtain ⟨s0, a0, a1, a2, a3, a4, a5, a6, b0, b1, b2, b3, b4, b5, b6, c0, c1, c2, c3, c4, c5, c6⟩ := hSw; go_simp)⟩
      simp only [Act.put, List.setIfInBounds_toArray, List.set_cons_zero, List.set_cons_succ]
      refine wpAnyH_take (i := 4) (oi := ?op3q4) (v := iv a) ?hp3q4 (by kernel_rfl) (by kernel_rfl) (by kernel_rfl) (fun _ _ _ h => h) ?yp3q4 (by assumption) ?rp3q4
      case hp3q4 => (simp only [List.getElem?_toArray, List.getElem?_cons_zero, List.getElem?_cons_succ]; rfl)
      case yp3q4 => exact Or.inl ⟨by rfl, by (intro W hSw; (try dsimp only at hSw); obtain ⟨s0, a0, a1, a2, a3, a4, a5, a6, b0, b1, b2, b3, b4, b5, b6, c0, c1, c2, c3, c4, c5, c6⟩ := hSw; go_simp)⟩
      simp only [Act.put, List.setIfInBounds_toArray, List.set_cons_zero, List.set_cons_succ]
      refine wpAnyH_ready (rs := [2]) (by kernel_rfl) (by simp) ?_
      refine AllReadyH.cons (o := ?op3q2) ?hp3q2 (fun K hK => ?rp3q2) AllReadyH.nil
      case hp3q2 => (simp only [List.getElem?_toArray, List.getElem?_cons_zero, List.getElem?_cons_succ]; rfl)
      go_simp
      refine (HAB.out _).mono ?_
      rintro r wc1 ⟨rfl, kc1⟩
      refine hK.out _ _ (Tri.held (hHeld0.1.old kc1)) (fun hHeld1 => ?_)
      clear hK K
      try simp only [Act.put, List.setIfInBounds_toArray, List.set_cons_zero, List.set_cons_succ]
      refine wpAnyH_ready (rs := [5]) (by kernel_rfl) (by simp) ?_
      refine AllReadyH.cons (o := ?op3q5) ?hp3q5 (fun K hK => ?rp3q5) AllReadyH.nil
      case hp3q5 => (simp only [List.getElem?_toArray, List.getElem?_cons_zero, List.getElem?_cons_succ]; rfl)
      go_simp
      refine (HBA.out _).mono ?_
      rintro r wc2 ⟨rfl, kc2⟩
      refine hK.out _ _ (Tri.held (hHeld1.1.old kc2)) (fun hHeld2 => ?_)
      clear hK K
      try simp only [Act.put, List.setIfInBounds_toArray, List.set_cons_zero, List.set_cons_succ]
      refine wpAnyH_take (i := 6) (oi := ?op3q6) (v := .int .i64 x) ?hp3q6 (by kernel_rfl) (by kernel_rfl) (by kernel_rfl) (fun _ _ _ h => h) ?yp3q6 (by assumption) ?rp3q6
      case hp3q6 => (simp only [List.getElem?_toArray, List.getElem?_cons_zero, List.getElem?_cons_succ]; rfl)
      case yp3q6 => exact Or.inl ⟨by rfl, by (intro W hSw; (try dsimp only at hSw); obtain ⟨s0, a0, a1, a2, a3, a4, a5, a6, b0, b1, b2, b3, b4, b5, b6, c0, c1, c2, c3, c4, c5, c6⟩ := hSw; go_simp)⟩
      simp only [Act.put, List.setIfInBounds_toArray, List.set_cons_zero, List.set_cons_succ]
      refine wpAnyH_take (i := 7) (oi := ?op3q7) (v := .bool false) ?hp3q7 (by kernel_rfl) (by kernel_rfl) (by kernel_rfl) (fun _ _ _ h => h) ?yp3q7 (by assumption) ?rp3q7
      case hp3q7 => (simp only [List.getElem?_toArray, List.getElem?_cons_zero, List.getElem?_cons_succ]; rfl)
      case yp3q7 => exact Or.inl ⟨by rfl, by (intro W hSw; (try dsimp only at hSw); obtain ⟨s0, a0, a1, a2, a3, a4, a5, a6, b0, b1, b2, b3, b4, b5, b6, c0, c1, c2, c3, c4, c5, c6⟩ := hSw; go_simp)⟩
      simp only [Act.put, List.setIfInBounds_toArray, List.set_cons_zero, List.set_cons_succ]
      refine wpAnyH_take (i := 8) (oi := ?op3q8) (v := .bool false) ?hp3q8 (by kernel_rfl) (by kernel_rfl) (by kernel_rfl) (fun _ _ _ h => h) ?yp3q8 (by assumption) ?rp3q8
      case hp3q8 => (simp only [List.getElem?_toArray, List.getElem?_cons_zero, List.getElem?_cons_succ]; rfl)
      case yp3q8 => exact Or.inl ⟨by rfl, by (intro W hSw; (try dsimp only at hSw); obtain ⟨s0, a0, a1, a2, a3, a4, a5, a6, b0, b1, b2, b3, b4, b5, b6, c0, c1, c2, c3, c4, c5, c6⟩ := hSw; go_simp)⟩
      simp only [Act.put, List.setIfInBounds_toArray, List.set_cons_zero, List.set_cons_succ]
      refine wpAnyH_take (i := 9) (oi := ?op3q9) (v := iv a) ?hp3q9 (by kernel_rfl) (by kernel_rfl) (by kernel_rfl) (fun _ _ _ h => h) ?yp3q9 (by assumption) ?rp3q9
      case hp3q9 => (simp only [List.getElem?_toArray, List.getElem?_cons_zero, List.getElem?_cons_succ]; rfl)
      case yp3q9 => exact Or.inl ⟨by rfl, by (intro W hSw; (try dsimp only at hSw); obtain ⟨s0, a0, a1, a2, a3, a4, a5, a6, b0, b1, b2, b3, b4, b5, b6, c0, c1, c2, c3, c4, c5, c6⟩ := hSw; go_simp)⟩
      simp only [Act.put, List.setIfInBounds_toArray, List.set_cons_zero, List.set_cons_succ]
      refine wpAnyH_take (i := 10) (oi := ?op3q10) (v := iv b) ?hp3q10 (by kernel_rfl) (by kernel_rfl) (by kernel_rfl) (fun _ _ _ h => h) ?yp3q10 (by assumption) ?rp3q10
      case hp3q10 => (simp only [List.getElem?_toArray, List.getElem?_cons_zero, List.getElem?_cons_succ]; rfl)
      case yp3q10 => exact Or.inl ⟨by rfl, by (intro W hSw; (try dsimp only at hSw); obtain ⟨s0, a0, a1, a2, a3, a4, a5, a6, b0, b1, b2, b3, b4, b5, b6, c0, c1, c2, c3, c4, c5, c6⟩ := hSw; go_simp)⟩
      simp only [Act.put, List.setIfInBounds_toArray, List.set_cons_zero, List.set_cons_succ]
      refine wpAnyH_ready (rs := [11]) (by kernel_rfl) (by simp) ?_
      refine AllReadyH.cons (o := ?op3q11) ?hp3q11 (fun K hK => ?rp3q11) AllReadyH.nil
      case hp3q11 => (simp only [List.getElem?_toArray, List.getElem?_cons_zero, List.getElem?_cons_succ]; rfl)
      go_simp
      refine (HAB.out _).mono ?_
      rintro r wc3 ⟨rfl, kc3⟩
      refine hK.out _ _ (Tri.held (hHeld2.1.old kc3)) (fun hHeld3 => ?_)
      clear hK K
      try simp only [Act.put, List.setIfInBounds_toArray, List.set_cons_zero, List.set_cons_succ]
      refine wpAnyH_take (i := 12) (oi := ?op3q12) (v := .bool false) ?hp3q12 (by kernel_rfl) (by kernel_rfl) (by kernel_rfl) (fun _ _ _ h => h) ?yp3q12 (by assumption) ?rp3q12
      case hp3q12 => (simp only [List.getElem?_toArray, List.getElem?_cons_zero, List.getElem?_cons_succ]; rfl)
      case yp3q12 => exact Or.inl ⟨by rfl, by (intro W hSw; (try dsimp only at hSw); obtain ⟨s0, a0, a1, a2, a3, a4, a5, a6, b0, b1, b2, b3, b4, b5, b6, c0, c1, c2, c3, c4, c5, c6⟩ := hSw; go_simp)⟩
      simp only [Act.put, List.setIfInBounds_toArray, List.set_cons_zero, List.set_cons_succ]
      refine wpAnyH_take (i := 13) (oi := ?op3q13) (v := .bool false) ?hp3q13 (by kernel_rfl) (by kernel_rfl) (by kernel_rfl) (fun _ _ _ h => h) ?yp3q13 (by assumption) ?rp3q13
      case hp3q13 => (simp only [List.getElem?_toArray, List.getElem?_cons_zero, List.getElem?_cons_succ]; rfl)
      case yp3q13 => exact Or.inl ⟨by rfl, by (intro W hSw; (try dsimp only at hSw); obtain ⟨s0, a0, a1, a2, a3, a4, a5, a6, b0, b1, b2, b3, b4, b5, b6, c0, c1, c2, c3, c4, c5, c6⟩ := hSw; go_simp)⟩
      simp only [Act.put, List.setIfInBounds_toArray, List.set_cons_zero, List.set_cons_succ]
      refine wpAnyH_take (i := 14) (oi := ?op3q14) (v := undef) ?hp3q14 (by kernel_rfl) (by kernel_rfl) (by kernel_rfl) (fun _ _ _ h => h) ?yp3q14 (by assumption) ?rp3q14
      case hp3q14 => (simp only [List.getElem?_toArray, List.getElem?_cons_zero, List.getElem?_cons_succ]; rfl)
      case yp3q14 => exact Or.inr ⟨by rfl, rfl⟩
      simp only [Act.put, List.setIfInBounds_toArray, List.set_cons_zero, List.set_cons_succ]
      refine wpAnyH_take (i := 15) (oi := ?op3q15) (v := undef) ?hp3q15 (by kernel_rfl) (by kernel_rfl) (by kernel_rfl) (fun _ _ _ h => h) ?yp3q15 (by assumption) ?rp3q15
      case hp3q15 => (simp only [List.getElem?_toArray, List.getElem?_cons_zero, List.getElem?_cons_succ]; rfl)
      case yp3q15 => exact Or.inr ⟨by rfl, rfl⟩
      simp only [Act.put, List.setIfInBounds_toArray, List.set_cons_zero, List.set_cons_succ]
      refine wpAnyH_take (i := 16) (oi := ?op3q16) (v := undef) ?hp3q16 (by kernel_rfl) (by kernel_rfl) (by kernel_rfl) (fun _ _ _ h => h) ?yp3q16 (by assumption) ?rp3q16
      case hp3q16 => (simp only [List.getElem?_toArray, List.getElem?_cons_zero, List.getElem?_cons_succ]; rfl)
      case yp3q16 => exact Or.inr ⟨by rfl, rfl⟩
      simp only [Act.put, List.setIfInBounds_toArray, List.set_cons_zero, List.set_cons_succ]
      refine wpAnyH_take (i := 17) (oi := ?op3q17) (v := undef) ?hp3q17 (by kernel_rfl) (by kernel_rfl) (by kernel_rfl) (fun _ _ _ h => h) ?yp3q17 (by assumption) ?rp3q17
      case hp3q17 => (simp only [List.getElem?_toArray, List.getElem?_cons_zero, List.getElem?_cons_succ]; rfl)
      case yp3q17 => exact Or.inr ⟨by rfl, rfl⟩
      simp only [Act.put, List.setIfInBounds_toArray, List.set_cons_zero, List.set_cons_succ]
      refine wpAnyH_take (i := 18) (oi := ?op3q18) (v := .bool false) ?hp3q18 (by kernel_rfl) (by kernel_rfl) (by kernel_rfl) (fun _ _ _ h => h) ?yp3q18 (by assumption) ?rp3q18
      case hp3q18 => (simp only [List.getElem?_toArray, List.getElem?_cons_zero, List.getElem?_cons_succ]; rfl)
      case yp3q18 => exact Or.inl ⟨by rfl, by (intro W hSw; (try dsimp only at hSw); obtain ⟨s0, a0, a1, a2, a3, a4, a5, a6, b0, b1, b2, b3, b4, b5, b6, c0, c1, c2, c3, c4, c5, c6⟩ := hSw; go_simp)⟩
      simp only [Act.put, List.setIfInBounds_toArray, List.set_cons_zero, List.set_cons_succ]
      refine wpAnyH_take (i := 19) (oi := ?op3q19) (v := .bool false) ?hp3q19 (by kernel_rfl) (by kernel_rfl) (by kernel_rfl) (fun _ _ _ h => h) ?yp3q19 (by assumption) ?rp3q19
      case hp3q19 => (simp only [List.getElem?_toArray, List.getElem?_cons_zero, List.getElem?_cons_succ]; rfl)
      case yp3q19 => exact Or.inl ⟨by rfl, by (intro W hSw; (try dsimp only at hSw); obtain ⟨s0, a0, a1, a2, a3, a4, a5, a6, b0, b1, b2, b3, b4, b5, b6, c0, c1, c2, c3, c4, c5, c6⟩ := hSw; go_simp)⟩
      simp only [Act.put, List.setIfInBounds_toArray, List.set_cons_zero, List.set_cons_succ]
      refine wpAnyH_take (i := 20) (oi := ?op3q20) (v := undef) ?hp3q20 (by kernel_rfl) (by kernel_rfl) (by kernel_rfl) (fun _ _ _ h => h) ?yp3q20 (by assumption) ?rp3q20
      case hp3q20 => (simp only [List.getElem?_toArray, List.getElem?_cons_zero, List.getElem?_cons_succ]; rfl)
      case yp3q20 => exact Or.inr ⟨by rfl, rfl⟩
      simp only [Act.put, List.setIfInBounds_toArray, List.set_cons_zero, List.set_cons_succ]
      refine wpAnyH_take (i := 21) (oi := ?op3q21) (v := undef) ?hp3q21 (by kernel_rfl) (by kernel_rfl) (by kernel_rfl) (fun _ _ _ h => h) ?yp3q21 (by assumption) ?rp3q21
      case hp3q21 => (simp only [List.getElem?_toArray, List.getElem?_cons_zero, List.getElem?_cons_succ]; rfl)
      case yp3q21 => exact Or.inr ⟨by rfl, rfl⟩
      simp only [Act.put, List.setIfInBounds_toArray, List.set_cons_zero, List.set_cons_succ]
      refine wpAnyH_take (i := 22) (oi := ?op3q22) (v := undef) ?hp3q22 (by kernel_rfl) (by kernel_rfl) (by kernel_rfl) (fun _ _ _ h => h) ?yp3q22 (by assumption) ?rp3q22
      case hp3q22 => (simp only [List.getElem?_toArray, List.getElem?_cons_zero, List.getElem?_cons_succ]; rfl)
      case yp3q22 => exact Or.inr ⟨by rfl, rfl⟩
      simp only [Act.put, List.setIfInBounds_toArray, List.set_cons_zero, List.set_cons_succ]
      refine wpAnyH_take (i := 23) (oi := ?op3q23) (v := undef) ?hp3q23 (by kernel_rfl) (by kernel_rfl) (by kernel_rfl) (fun _ _ _ h => h) ?yp3q23 (by assumption) ?rp3q23
      case hp3q23 => (simp only [List.getElem?_toArray, List.getElem?_cons_zero, List.getElem?_cons_succ]; rfl)
      case yp3q23 => exact Or.inr ⟨by rfl, rfl⟩
      simp only [Act.put, List.setIfInBounds_toArray, List.set_cons_zero, List.set_cons_succ]
      refine wpAnyH_take (i := 24) (oi := ?op3q24) (v := .bool false) ?hp3q24 (by kernel_rfl) (by kernel_rfl) (by kernel_rfl) (fun _ _ _ h => h) ?yp3q24 (by assumption) ?rp3q24
      case hp3q24 => (simp only [List.getElem?_toArray, List.getElem?_cons_zero, List.getElem?_cons_succ]; rfl)
      case yp3q24 => exact Or.inl ⟨by rfl, by (intro W hSw; (try dsimp only at hSw); obtain ⟨s0, a0, a1, a2, a3, a4, a5, a6, b0, b1, b2, b3, b4, b5, b6, c0, c1, c2, c3, c4, c5, c6⟩ := hSw; go_simp)⟩
      simp only [Act.put, List.setIfInBounds_toArray, List.set_cons_zero, List.set_cons_succ]
      refine wpAnyH_take (i := 25) (oi := ?op3q25) (v := .bool false) ?hp3q25 (by kernel_rfl) (by kernel_rfl) (by kernel_rfl) (fun _ _ _ h => h) ?yp3q25 (by assumption) ?rp3q25
      case hp3q25 => (simp only [List.getElem?_toArray, List.getElem?_cons_zero, List.getElem?_cons_succ]; rfl)
      case yp3q25 => exact Or.inl ⟨by rfl, by (intro W hSw; (try dsimp only at hSw); obtain ⟨s0, a0, a1, a2, a3, a4, a5, a6, b0, b1, b2, b3, b4, b5, b6, c0, c1, c2, c3, c4, c5, c6⟩ := hSw; go_simp)⟩
      simp only [Act.put, List.setIfInBounds_toArray, List.set_cons_zero, List.set_cons_succ]
      refine wpAnyH_done (by kernel_rfl) ?_ _
      refine NoPanic.normal ?_
      have ft2 := hHeld3.1
      clear hHeld0 hHeld1 hHeld2 hHeld3 ft
      go_wp2_with fail
      go_meet
      exact ⟨rfl, ft2⟩
  case rest =>
    clear ft
    obtain ⟨rfl, ft⟩ := hcut
    by_cases e1 : a.c.row = b.c.row
    case neg =>
      have dz : (x == 0) = false := by rw [beq_eq_false_iff_ne]; exact fun h => e1 (HZ.out.1 h).1
      go_upto_region 5 with (fail)
      refine wp_region_noPanic ?_
      refine wp_region_held_drew (S := fun W => Tri w W a b c ∧ W.cell? ⟨w.heap.size, 0, none⟩ = some (.string (B a.c.row)) ∧ W.cell? ⟨w.heap.size, 1, none⟩ = some (.string (B a.c.col)) ∧ W.cell? ⟨w.heap.size, 2, none⟩ = some (.int .u64 a.c.ts) ∧ W.cell? ⟨w.heap.size, 3, none⟩ = some (.int .u64 a.c.seq) ∧ W.cell? ⟨w.heap.size, 4, none⟩ = some (.bool a.c.del) ∧ W.cell? ⟨w.heap.size, 5, none⟩ = some (.string (B a.c.val)) ∧ W.cell? ⟨w.heap.size, 6, none⟩ = some (.int .i64 a.pos) ∧ W.cell? ⟨w.heap.size + 1, 0, none⟩ = some (.string (B b.c.row)) ∧ W.cell? ⟨w.heap.size + 1, 1, none⟩ = some (.string (B b.c.col)) ∧ W.cell? ⟨w.heap.size + 1, 2, none⟩ = some (.int .u64 b.c.ts) ∧ W.cell? ⟨w.heap.size + 1, 3, none⟩ = some (.int .u64 b.c.seq) ∧ W.cell? ⟨w.heap.size + 1, 4, none⟩ = some (.bool b.c.del) ∧ W.cell? ⟨w.heap.size + 1, 5, none⟩ = some (.string (B b.c.val)) ∧ W.cell? ⟨w.heap.size + 1, 6, none⟩ = some (.int .i64 b.pos) ∧ W.cell? ⟨w.heap.size + 1 + 1, 0, none⟩ = some (.string (B c.c.row)) ∧ W.cell? ⟨w.heap.size + 1 + 1, 1, none⟩ = some (.string (B c.c.col)) ∧ W.cell? ⟨w.heap.size + 1 + 1, 2, none⟩ = some (.int .u64 c.c.ts) ∧ W.cell? ⟨w.heap.size + 1 + 1, 3, none⟩ = some (.int .u64 c.c.seq) ∧ W.cell? ⟨w.heap.size + 1 + 1, 4, none⟩ = some (.bool c.c.del) ∧ W.cell? ⟨w.heap.size + 1 + 1, 5, none⟩ = some (.string (B c.c.val)) ∧ W.cell? ⟨w.heap.size + 1 + 1, 6, none⟩ = some (.int .i64 c.pos)) (by kernel_rfl) (Tri.held (ft.old (Old.re _).dr)) (fun hHeld0 => ?_)
      refine wpAnyH_take (i := 0) (oi := ?op4q0) (v := iv a) ?hp4q0 (by kernel_rfl) (by kernel_rfl) (by kernel_rfl) (fun _ _ _ h => h) ?yp4q0 (by assumption) ?rp4q0
      case hp4q0 => (simp only [List.getElem?_toArray, List.getElem?_cons_zero]; rfl)
      case yp4q0 => exact Or.inl ⟨by rfl, by (intro W hSw; (try dsimp only at hSw); obtain ⟨s0, a0, a1, a2, a3, a4, a5, a6, b0, b1, b2, b3, b4, b5, b6, c0, c1, c2, c3, c4, c5, c6⟩ := hSw; go_simp)⟩
      simp only [Act.put, List.setIfInBounds_toArray, List.set_cons_zero, List.set_cons_succ]
      refine wpAnyH_take (i := 1) (oi := ?op4q1) (v := iv b) ?hp4q1 (by kernel_rfl) (by kernel_rfl) (by kernel_rfl) (fun _ _ _ h => h) ?yp4q1 (by assumption) ?rp4q1
      case hp4q1 => (simp only [List.getElem?_toArray, List.getElem?_cons_zero, List.getElem?_cons_succ]; rfl)
      case yp4q1 => exact Or.inl ⟨by rfl, by (intro W hSw; (try dsimp only at hSw); obtain ⟨s0, a0, a1, a2, a3, a4, a5, a6, b0, b1, b2, b3, b4, b5, b6, c0, c1, c2, c3, c4, c5, c6⟩ := hSw; go_simp)⟩
      simp only [Act.put, List.setIfInBounds_toArray, List.set_cons_zero, List.set_cons_succ]
      refine wpAnyH_take (i := 4) (oi := ?op4q4) (v := .pointer (some ⟨w.heap.size, 0, none⟩)) ?hp4q4 (by kernel_rfl) (by kernel_rfl) (by kernel_rfl) (fun _ _ _ h => h) ?yp4q4 (by assumption) ?rp4q4
      case hp4q4 => (simp only [List.getElem?_toArray, List.getElem?_cons_zero, List.getElem?_cons_succ]; rfl)
      case yp4q4 => exact Or.inl ⟨by rfl, by (intro W hSw; (try dsimp only at hSw); obtain ⟨s0, a0, a1, a2, a3, a4, a5, a6, b0, b1, b2, b3, b4, b5, b6, c0, c1, c2, c3, c4, c5, c6⟩ := hSw; go_simp)⟩
      simp only [Act.put, List.setIfInBounds_toArray, List.set_cons_zero, List.set_cons_succ]
      refine wpAnyH_take (i := 5) (oi := ?op4q5) (v := .pointer (some ⟨w.heap.size, 0, none⟩)) ?hp4q5 (by kernel_rfl) (by kernel_rfl) (by kernel_rfl) (fun _ _ _ h => h) ?yp4q5 (by assumption) ?rp4q5
      case hp4q5 => (simp only [List.getElem?_toArray, List.getElem?_cons_zero, List.getElem?_cons_succ]; rfl)
      case yp4q5 => exact Or.inl ⟨by rfl, by (intro W hSw; (try dsimp only at hSw); obtain ⟨s0, a0, a1, a2, a3, a4, a5, a6, b0, b1, b2, b3, b4, b5, b6, c0, c1, c2, c3, c4, c5, c6⟩ := hSw; go_simp)⟩
      simp only [Act.put, List.setIfInBounds_toArray, List.set_cons_zero, List.set_cons_succ]
      refine wpAnyH_take (i := 6) (oi := ?op4q6) (v := .string (B a.c.row)) ?hp4q6 (by kernel_rfl) (by kernel_rfl) (by kernel_rfl) (fun _ _ _ h => h) ?yp4q6 (by assumption) ?rp4q6
      case hp4q6 => (simp only [List.getElem?_toArray, List.getElem?_cons_zero, List.getElem?_cons_succ]; rfl)
      case yp4q6 => exact Or.inl ⟨by rfl, by (intro W hSw; (try dsimp only at hSw); obtain ⟨s0, a0, a1, a2, a3, a4, a5, a6, b0, b1, b2, b3, b4, b5, b6, c0, c1, c2, c3, c4, c5, c6⟩ := hSw; go_simp)⟩
      simp only [Act.put, List.setIfInBounds_toArray, List.set_cons_zero, List.set_cons_succ]
      refine wpAnyH_take (i := 7) (oi := ?op4q7) (v := .pointer (some ⟨w.heap.size + 1, 0, none⟩)) ?hp4q7 (by kernel_rfl) (by kernel_rfl) (by kernel_rfl) (fun _ _ _ h => h) ?yp4q7 (by assumption) ?rp4q7
      case hp4q7 => (simp only [List.getElem?_toArray, List.getElem?_cons_zero, List.getElem?_cons_succ]; rfl)
      case yp4q7 => exact Or.inl ⟨by rfl, by (intro W hSw; (try dsimp only at hSw); obtain ⟨s0, a0, a1, a2, a3, a4, a5, a6, b0, b1, b2, b3, b4, b5, b6, c0, c1, c2, c3, c4, c5, c6⟩ := hSw; go_simp)⟩
      simp only [Act.put, List.setIfInBounds_toArray, List.set_cons_zero, List.set_cons_succ]
      refine wpAnyH_take (i := 8) (oi := ?op4q8) (v := .pointer (some ⟨w.heap.size + 1, 0, none⟩)) ?hp4q8 (by kernel_rfl) (by kernel_rfl) (by kernel_rfl) (fun _ _ _ h => h) ?yp4q8 (by assumption) ?rp4q8
      case hp4q8 => (simp only [List.getElem?_toArray, List.getElem?_cons_zero, List.getElem?_cons_succ]; rfl)
      case yp4q8 => exact Or.inl ⟨by rfl, by (intro W hSw; (try dsimp only at hSw); obtain ⟨s0, a0, a1, a2, a3, a4, a5, a6, b0, b1, b2, b3, b4, b5, b6, c0, c1, c2, c3, c4, c5, c6⟩ := hSw; go_simp)⟩
      simp only [Act.put, List.setIfInBounds_toArray, List.set_cons_zero, List.set_cons_succ]
      refine wpAnyH_take (i := 9) (oi := ?op4q9) (v := .string (B b.c.row)) ?hp4q9 (by kernel_rfl) (by kernel_rfl) (by kernel_rfl) (fun _ _ _ h => h) ?yp4q9 (by assumption) ?rp4q9
      case hp4q9 => (simp only [List.getElem?_toArray, List.getElem?_cons_zero, List.getElem?_cons_succ]; rfl)
      case yp4q9 => exact Or.inl ⟨by rfl, by (intro W hSw; (try dsimp only at hSw); obtain ⟨s0, a0, a1, a2, a3, a4, a5, a6, b0, b1, b2, b3, b4, b5, b6, c0, c1, c2, c3, c4, c5, c6⟩ := hSw; go_simp)⟩
      simp only [Act.put, List.setIfInBounds_toArray, List.set_cons_zero, List.set_cons_succ]
      refine wpAnyH_take (i := 10) (oi := ?op4q10) (v := .bool false) ?hp4q10 (by kernel_rfl) (by kernel_rfl) (by kernel_rfl) (fun _ _ _ h => h) ?yp4q10 (by assumption) ?rp4q10
      case hp4q10 => (simp only [List.getElem?_toArray, List.getElem?_cons_zero, List.getElem?_cons_succ]; rfl)
      case yp4q10 => exact Or.inl ⟨by rfl, by (intro W hSw; (try dsimp only at hSw); obtain ⟨s0, a0, a1, a2, a3, a4, a5, a6, b0, b1, b2, b3, b4, b5, b6, c0, c1, c2, c3, c4, c5, c6⟩ := hSw; go_simp)⟩
      simp only [Act.put, List.setIfInBounds_toArray, List.set_cons_zero, List.set_cons_succ]
      refine wpAnyH_ready (rs := [2]) (by kernel_rfl) (by simp) ?_
      refine AllReadyH.cons (o := ?op4q2) ?hp4q2 (fun K hK => ?rp4q2) AllReadyH.nil
      case hp4q2 => (simp only [List.getElem?_toArray, List.getElem?_cons_zero, List.getElem?_cons_succ]; rfl)
      go_simp
      refine (HAB.out _).mono ?_
      rintro r wc1 ⟨rfl, kc1⟩
      refine hK.out _ _ (Tri.held (hHeld0.1.old kc1)) (fun hHeld1 => ?_)
      clear hK K
      try simp only [Act.put, List.setIfInBounds_toArray, List.set_cons_zero, List.set_cons_succ]
      refine wpAnyH_take (i := 3) (oi := ?op4q3) (v := .bool false) ?hp4q3 (by kernel_rfl) (by kernel_rfl) (by kernel_rfl) (fun _ _ _ h => h) ?yp4q3 (by assumption) ?rp4q3
      case hp4q3 => (simp only [List.getElem?_toArray, List.getElem?_cons_zero, List.getElem?_cons_succ]; rfl)
      case yp4q3 => exact Or.inl ⟨by rfl, by (intro W hSw; (try dsimp only at hSw); obtain ⟨s0, a0, a1, a2, a3, a4, a5, a6, b0, b1, b2, b3, b4, b5, b6, c0, c1, c2, c3, c4, c5, c6⟩ := hSw; go_simp)⟩
      simp only [Act.put, List.setIfInBounds_toArray, List.set_cons_zero, List.set_cons_succ]
      refine wpAnyH_take (i := 11) (oi := ?op4q11) (v := .bool false) ?hp4q11 (by kernel_rfl) (by kernel_rfl) (by kernel_rfl) (fun _ _ _ h => h) ?yp4q11 (by assumption) ?rp4q11
      case hp4q11 => (simp only [List.getElem?_toArray, List.getElem?_cons_zero, List.getElem?_cons_succ]; rfl)
      case yp4q11 => exact Or.inl ⟨by rfl, by (intro W hSw; (try dsimp only at hSw); obtain ⟨s0, a0, a1, a2, a3, a4, a5, a6, b0, b1, b2, b3, b4, b5, b6, c0, c1, c2, c3, c4, c5, c6⟩ := hSw; go_simp)⟩
      simp only [Act.put, List.setIfInBounds_toArray, List.set_cons_zero, List.set_cons_succ]
      refine wpAnyH_take (i := 12) (oi := ?op4q12) (v := undef) ?hp4q12 (by kernel_rfl) (by kernel_rfl) (by kernel_rfl) (fun _ _ _ h => h) ?yp4q12 (by assumption) ?rp4q12
      case hp4q12 => (simp only [List.getElem?_toArray, List.getElem?_cons_zero, List.getElem?_cons_succ]; rfl)
      case yp4q12 => exact Or.inr ⟨by rfl, rfl⟩
      simp only [Act.put, List.setIfInBounds_toArray, List.set_cons_zero, List.set_cons_succ]
      refine wpAnyH_take (i := 13) (oi := ?op4q13) (v := undef) ?hp4q13 (by kernel_rfl) (by kernel_rfl) (by kernel_rfl) (fun _ _ _ h => h) ?yp4q13 (by assumption) ?rp4q13
      case hp4q13 => (simp only [List.getElem?_toArray, List.getElem?_cons_zero, List.getElem?_cons_succ]; rfl)
      case yp4q13 => exact Or.inr ⟨by rfl, rfl⟩
      simp only [Act.put, List.setIfInBounds_toArray, List.set_cons_zero, List.set_cons_succ]
      refine wpAnyH_take (i := 14) (oi := ?op4q14) (v := undef) ?hp4q14 (by kernel_rfl) (by kernel_rfl) (by kernel_rfl) (fun _ _ _ h => h) ?yp4q14 (by assumption) ?rp4q14
      case hp4q14 => (simp only [List.getElem?_toArray, List.getElem?_cons_zero, List.getElem?_cons_succ]; rfl)
      case yp4q14 => exact Or.inr ⟨by rfl, rfl⟩
      simp only [Act.put, List.setIfInBounds_toArray, List.set_cons_zero, List.set_cons_succ]
      refine wpAnyH_take (i := 15) (oi := ?op4q15) (v := undef) ?hp4q15 (by kernel_rfl) (by kernel_rfl) (by kernel_rfl) (fun _ _ _ h => h) ?yp4q15 (by assumption) ?rp4q15
      case hp4q15 => (simp only [List.getElem?_toArray, List.getElem?_cons_zero, List.getElem?_cons_succ]; rfl)
      case yp4q15 => exact Or.inr ⟨by rfl, rfl⟩
      simp only [Act.put, List.setIfInBounds_toArray, List.set_cons_zero, List.set_cons_succ]
      refine wpAnyH_take (i := 16) (oi := ?op4q16) (v := undef) ?hp4q16 (by kernel_rfl) (by kernel_rfl) (by kernel_rfl) (fun _ _ _ h => h) ?yp4q16 (by assumption) ?rp4q16
      case hp4q16 => (simp only [List.getElem?_toArray, List.getElem?_cons_zero, List.getElem?_cons_succ]; rfl)
      case yp4q16 => exact Or.inr ⟨by rfl, rfl⟩
      simp only [Act.put, List.setIfInBounds_toArray, List.set_cons_zero, List.set_cons_succ]
      refine wpAnyH_take (i := 17) (oi := ?op4q17) (v := undef) ?hp4q17 (by kernel_rfl) (by kernel_rfl) (by kernel_rfl) (fun _ _ _ h => h) ?yp4q17 (by assumption) ?rp4q17
      case hp4q17 => (simp only [List.getElem?_toArray, List.getElem?_cons_zero, List.getElem?_cons_succ]; rfl)
      case yp4q17 => exact Or.inr ⟨by rfl, rfl⟩
      simp only [Act.put, List.setIfInBounds_toArray, List.set_cons_zero, List.set_cons_succ]
      refine wpAnyH_take (i := 18) (oi := ?op4q18) (v := undef) ?hp4q18 (by kernel_rfl) (by kernel_rfl) (by kernel_rfl) (fun _ _ _ h => h) ?yp4q18 (by assumption) ?rp4q18
      case hp4q18 => (simp only [List.getElem?_toArray, List.getElem?_cons_zero, List.getElem?_cons_succ]; rfl)
      case yp4q18 => exact Or.inr ⟨by rfl, rfl⟩
      simp only [Act.put, List.setIfInBounds_toArray, List.set_cons_zero, List.set_cons_succ]
      refine wpAnyH_take (i := 19) (oi := ?op4q19) (v := .bool false) ?hp4q19 (by kernel_rfl) (by kernel_rfl) (by kernel_rfl) (fun _ _ _ h => h) ?yp4q19 (by assumption) ?rp4q19
      case hp4q19 => (simp only [List.getElem?_toArray, List.getElem?_cons_zero, List.getElem?_cons_succ]; rfl)
      case yp4q19 => exact Or.inl ⟨by rfl, by (intro W hSw; (try dsimp only at hSw); obtain ⟨s0, a0, a1, a2, a3, a4, a5, a6, b0, b1, b2, b3, b4, b5, b6, c0, c1, c2, c3, c4, c5, c6⟩ := hSw; go_simp)⟩
      simp only [Act.put, List.setIfInBounds_toArray, List.set_cons_zero, List.set_cons_succ]
      refine wpAnyH_take (i := 20) (oi := ?op4q20) (v := .bool false) ?hp4q20 (by kernel_rfl) (by kernel_rfl) (by kernel_rfl) (fun _ _ _ h => h) ?yp4q20 (by assumption) ?rp4q20
      case hp4q20 => (simp only [List.getElem?_toArray, List.getElem?_cons_zero, List.getElem?_cons_succ]; rfl)
      case yp4q20 => exact Or.inl ⟨by rfl, by (intro W hSw; (try dsimp only at hSw); obtain ⟨s0, a0, a1, a2, a3, a4, a5, a6, b0, b1, b2, b3, b4, b5, b6, c0, c1, c2, c3, c4, c5, c6⟩ := hSw; go_simp)⟩
      simp only [Act.put, List.setIfInBounds_toArray, List.set_cons_zero, List.set_cons_succ]
      refine wpAnyH_take (i := 21) (oi := ?op4q21) (v := undef) ?hp4q21 (by kernel_rfl) (by kernel_rfl) (by kernel_rfl) (fun _ _ _ h => h) ?yp4q21 (by assumption) ?rp4q21
      case hp4q21 => (simp only [List.getElem?_toArray, List.getElem?_cons_zero, List.getElem?_cons_succ]; rfl)
      case yp4q21 => exact Or.inr ⟨by rfl, rfl⟩
      simp only [Act.put, List.setIfInBounds_toArray, List.set_cons_zero, List.set_cons_succ]
      refine wpAnyH_take (i := 22) (oi := ?op4q22) (v := undef) ?hp4q22 (by kernel_rfl) (by kernel_rfl) (by kernel_rfl) (fun _ _ _ h => h) ?yp4q22 (by assumption) ?rp4q22
      case hp4q22 => (simp only [List.getElem?_toArray, List.getElem?_cons_zero, List.getElem?_cons_succ]; rfl)
      case yp4q22 => exact Or.inr ⟨by rfl, rfl⟩
      simp only [Act.put, List.setIfInBounds_toArray, List.set_cons_zero, List.set_cons_succ]
      refine wpAnyH_take (i := 23) (oi := ?op4q23) (v := undef) ?hp4q23 (by kernel_rfl) (by kernel_rfl) (by kernel_rfl) (fun _ _ _ h => h) ?yp4q23 (by assumption) ?rp4q23
      case hp4q23 => (simp only [List.getElem?_toArray, List.getElem?_cons_zero, List.getElem?_cons_succ]; rfl)
      case yp4q23 => exact Or.inr ⟨by rfl, rfl⟩
      simp only [Act.put, List.setIfInBounds_toArray, List.set_cons_zero, List.set_cons_succ]
      refine wpAnyH_take (i := 24) (oi := ?op4q24) (v := undef) ?hp4q24 (by kernel_rfl) (by kernel_rfl) (by kernel_rfl) (fun _ _ _ h => h) ?yp4q24 (by assumption) ?rp4q24
      case hp4q24 => (simp only [List.getElem?_toArray, List.getElem?_cons_zero, List.getElem?_cons_succ]; rfl)
      case yp4q24 => exact Or.inr ⟨by rfl, rfl⟩
      simp only [Act.put, List.setIfInBounds_toArray, List.set_cons_zero, List.set_cons_succ]
      refine wpAnyH_take (i := 25) (oi := ?op4q25) (v := undef) ?hp4q25 (by kernel_rfl) (by kernel_rfl) (by kernel_rfl) (fun _ _ _ h => h) ?yp4q25 (by assumption) ?rp4q25
      case hp4q25 => (simp only [List.getElem?_toArray, List.getElem?_cons_zero, List.getElem?_cons_succ]; rfl)
      case yp4q25 => exact Or.inr ⟨by rfl, rfl⟩
      simp only [Act.put, List.setIfInBounds_toArray, List.set_cons_zero, List.set_cons_succ]
      refine wpAnyH_take (i := 26) (oi := ?op4q26) (v := undef) ?hp4q26 (by kernel_rfl) (by kernel_rfl) (by kernel_rfl) (fun _ _ _ h => h) ?yp4q26 (by assumption) ?rp4q26
      case hp4q26 => (simp only [List.getElem?_toArray, List.getElem?_cons_zero, List.getElem?_cons_succ]; rfl)
      case yp4q26 => exact Or.inr ⟨by rfl, rfl⟩
      simp only [Act.put, List.setIfInBounds_toArray, List.set_cons_zero, List.set_cons_succ]
      refine wpAnyH_take (i := 27) (oi := ?op4q27) (v := undef) ?hp4q27 (by kernel_rfl) (by kernel_rfl) (by kernel_rfl) (fun _ _ _ h => h) ?yp4q27 (by assumption) ?rp4q27
      case hp4q27 => (simp only [List.getElem?_toArray, List.getElem?_cons_zero, List.getElem?_cons_succ]; rfl)
      case yp4q27 => exact Or.inr ⟨by rfl, rfl⟩
      simp only [Act.put, List.setIfInBounds_toArray, List.set_cons_zero, List.set_cons_succ]
      refine wpAnyH_take (i := 28) (oi := ?op4q28) (v := .bool false) ?hp4q28 (by kernel_rfl) (by kernel_rfl) (by kernel_rfl) (fun _ _ _ h => h) ?yp4q28 (by assumption) ?rp4q28
      case hp4q28 => (simp only [List.getElem?_toArray, List.getElem?_cons_zero, List.getElem?_cons_succ]; rfl)
      case yp4q28 => exact Or.inl ⟨by rfl, by (intro W hSw; (try dsimp only at hSw); obtain ⟨s0, a0, a1, a2, a3, a4, a5, a6, b0, b1, b2, b3, b4, b5, b6, c0, c1, c2, c3, c4, c5, c6⟩ := hSw; go_simp)⟩
      simp only [Act.put, List.setIfInBounds_toArray, List.set_cons_zero, List.set_cons_succ]
      refine wpAnyH_take (i := 29) (oi := ?op4q29) (v := .bool false) ?hp4q29 (by kernel_rfl) (by kernel_rfl) (by kernel_rfl) (fun _ _ _ h => h) ?yp4q29 (by assumption) ?rp4q29
      case hp4q29 => (simp only [List.getElem?_toArray, List.getElem?_cons_zero, List.getElem?_cons_succ]; rfl)
      case yp4q29 => exact Or.inl ⟨by rfl, by (intro W hSw; (try dsimp only at hSw); obtain ⟨s0, a0, a1, a2, a3, a4, a5, a6, b0, b1, b2, b3, b4, b5, b6, c0, c1, c2, c3, c4, c5, c6⟩ := hSw; go_simp)⟩
      simp only [Act.put, List.setIfInBounds_toArray, List.set_cons_zero, List.set_cons_succ]
      refine wpAnyH_take (i := 30) (oi := ?op4q30) (v := undef) ?hp4q30 (by kernel_rfl) (by kernel_rfl) (by kernel_rfl) (fun _ _ _ h => h) ?yp4q30 (by assumption) ?rp4q30
      case hp4q30 => (simp only [List.getElem?_toArray, List.getElem?_cons_zero, List.getElem?_cons_succ]; rfl)
      case yp4q30 => exact Or.inr ⟨by rfl, rfl⟩
      simp only [Act.put, List.setIfInBounds_toArray, List.set_cons_zero, List.set_cons_succ]
      refine wpAnyH_take (i := 31) (oi := ?op4q31) (v := undef) ?hp4q31 (by kernel_rfl) (by kernel_rfl) (by kernel_rfl) (fun _ _ _ h => h) ?yp4q31 (by assumption) ?rp4q31
      case hp4q31 => (simp only [List.getElem?_toArray, List.getElem?_cons_zero, List.getElem?_cons_succ]; rfl)
      case yp4q31 => exact Or.inr ⟨by rfl, rfl⟩
      simp only [Act.put, List.setIfInBounds_toArray, List.set_cons_zero, List.set_cons_succ]
      refine wpAnyH_take (i := 32) (oi := ?op4q32) (v := undef) ?hp4q32 (by kernel_rfl) (by kernel_rfl) (by kernel_rfl) (fun _ _ _ h => h) ?yp4q32 (by assumption) ?rp4q32
      case hp4q32 => (simp only [List.getElem?_toArray, List.getElem?_cons_zero, List.getElem?_cons_succ]; rfl)
      case yp4q32 => exact Or.inr ⟨by rfl, rfl⟩
      simp only [Act.put, List.setIfInBounds_toArray, List.set_cons_zero, List.set_cons_succ]
      refine wpAnyH_take (i := 33) (oi := ?op4q33) (v := undef) ?hp4q33 (by kernel_rfl) (by kernel_rfl) (by kernel_rfl) (fun _ _ _ h => h) ?yp4q33 (by assumption) ?rp4q33
      case hp4q33 => (simp only [List.getElem?_toArray, List.getElem?_cons_zero, List.getElem?_cons_succ]; rfl)
      case yp4q33 => exact Or.inr ⟨by rfl, rfl⟩
      simp only [Act.put, List.setIfInBounds_toArray, List.set_cons_zero, List.set_cons_succ]
      refine wpAnyH_take (i := 34) (oi := ?op4q34) (v := undef) ?hp4q34 (by kernel_rfl) (by kernel_rfl) (by kernel_rfl) (fun _ _ _ h => h) ?yp4q34 (by assumption) ?rp4q34
      case hp4q34 => (simp only [List.getElem?_toArray, List.getElem?_cons_zero, List.getElem?_cons_succ]; rfl)
      case yp4q34 => exact Or.inr ⟨by rfl, rfl⟩
      simp only [Act.put, List.setIfInBounds_toArray, List.set_cons_zero, List.set_cons_succ]
      refine wpAnyH_take (i := 35) (oi := ?op4q35) (v := .bool false) ?hp4q35 (by kernel_rfl) (by kernel_rfl) (by kernel_rfl) (fun _ _ _ h => h) ?yp4q35 (by assumption) ?rp4q35
      case hp4q35 => (simp only [List.getElem?_toArray, List.getElem?_cons_zero, List.getElem?_cons_succ]; rfl)
      case yp4q35 => exact Or.inl ⟨by rfl, by (intro W hSw; (try dsimp only at hSw); obtain ⟨s0, a0, a1, a2, a3, a4, a5, a6, b0, b1, b2, b3, b4, b5, b6, c0, c1, c2, c3, c4, c5, c6⟩ := hSw; go_simp)⟩
      simp only [Act.put, List.setIfInBounds_toArray, List.set_cons_zero, List.set_cons_succ]
      refine wpAnyH_take (i := 36) (oi := ?op4q36) (v := .bool true) ?hp4q36 (by kernel_rfl) (by kernel_rfl) (by kernel_rfl) (fun _ _ _ h => h) ?yp4q36 (by assumption) ?rp4q36
      case hp4q36 => (simp only [List.getElem?_toArray, List.getElem?_cons_zero, List.getElem?_cons_succ]; rfl)
      case yp4q36 => exact Or.inl ⟨by rfl, by (intro W hSw; (try dsimp only at hSw); obtain ⟨s0, a0, a1, a2, a3, a4, a5, a6, b0, b1, b2, b3, b4, b5, b6, c0, c1, c2, c3, c4, c5, c6⟩ := hSw; go_simp)⟩
      simp only [Act.put, List.setIfInBounds_toArray, List.set_cons_zero, List.set_cons_succ]
      refine wpAnyH_take (i := 37) (oi := ?op4q37) (v := .bool true) ?hp4q37 (by kernel_rfl) (by kernel_rfl) (by kernel_rfl) (fun _ _ _ h => h) ?yp4q37 (by assumption) ?rp4q37
      case hp4q37 => (simp only [List.getElem?_toArray, List.getElem?_cons_zero, List.getElem?_cons_succ]; rfl)
      case yp4q37 => exact Or.inl ⟨by rfl, by (intro W hSw; (try dsimp only at hSw); obtain ⟨s0, a0, a1, a2, a3, a4, a5, a6, b0, b1, b2, b3, b4, b5, b6, c0, c1, c2, c3, c4, c5, c6⟩ := hSw; go_simp)⟩
      simp only [Act.put, List.setIfInBounds_toArray, List.set_cons_zero, List.set_cons_succ]
      refine wpAnyH_done (by kernel_rfl) ?_ _
      refine NoPanic.normal ?_
      have o9 := hHeld1.1.od
      clear hHeld0 hHeld1 ft
      go_wp2
      go_ret
      exact ⟨rfl, o9⟩
    by_cases e2 : a.c.col = b.c.col
    case neg =>
        have dz : (x == 0) = false := by rw [beq_eq_false_iff_ne]; exact fun h => e2 (HZ.out.1 h).2.1
        go_upto_region 5 with (fail)
        refine wp_region_noPanic ?_
        refine wp_region_held_drew (S := fun W => Tri w W a b c ∧ W.cell? ⟨w.heap.size, 0, none⟩ = some (.string (B a.c.row)) ∧ W.cell? ⟨w.heap.size, 1, none⟩ = some (.string (B a.c.col)) ∧ W.cell? ⟨w.heap.size, 2, none⟩ = some (.int .u64 a.c.ts) ∧ W.cell? ⟨w.heap.size, 3, none⟩ = some (.int .u64 a.c.seq) ∧ W.cell? ⟨w.heap.size, 4, none⟩ = some (.bool a.c.del) ∧ W.cell? ⟨w.heap.size, 5, none⟩ = some (.string (B a.c.val)) ∧ W.cell? ⟨w.heap.size, 6, none⟩ = some (.int .i64 a.pos) ∧ W.cell? ⟨w.heap.size + 1, 0, none⟩ = some (.string (B b.c.row)) ∧ W.cell? ⟨w.heap.size + 1, 1, none⟩ = some (.string (B b.c.col)) ∧ W.cell? ⟨w.heap.size + 1, 2, none⟩ = some (.int .u64 b.c.ts) ∧ W.cell? ⟨w.heap.size + 1, 3, none⟩ = some (.int .u64 b.c.seq) ∧ W.cell? ⟨w.heap.size + 1, 4, none⟩ = some (.bool b.c.del) ∧ W.cell? ⟨w.heap.size + 1, 5, none⟩ = some (.string (B b.c.val)) ∧ W.cell? ⟨w.heap.size + 1, 6, none⟩ = some (.int .i64 b.pos) ∧ W.cell? ⟨w.heap.size + 1 + 1, 0, none⟩ = some (.string (B c.c.row)) ∧ W.cell? ⟨w.heap.size + 1 + 1, 1, none⟩ = some (.string (B c.c.col)) ∧ W.cell? ⟨w.heap.size + 1 + 1, 2, none⟩ = some (.int .u64 c.c.ts) ∧ W.cell? ⟨w.heap.size + 1 + 1, 3, none⟩ = some (.int .u64 c.c.seq) ∧ W.cell? ⟨w.heap.size + 1 + 1, 4, none⟩ = some (.bool c.c.del) ∧ W.cell? ⟨w.heap.size + 1 + 1, 5, none⟩ = some (.string (B c.c.val)) ∧ W.cell? ⟨w.heap.size + 1 + 1, 6, none⟩ = some (.int .i64 c.pos)) (by kernel_rfl) (Tri.held (ft.old (Old.re _).dr)) (fun hHeld0 => ?_)
        refine wpAnyH_take (i := 0) (oi := ?op5q0) (v := iv a) ?hp5q0 (by kernel_rfl) (by kernel_rfl) (by kernel_rfl) (fun _ _ _ h => h) ?yp5q0 (by assumption) ?rp5q0
        case hp5q0 => (simp only [List.getElem?_toArray, List.getElem?_cons_zero]; rfl)
        case yp5q0 => exact Or.inl ⟨by rfl, by (intro W hSw; (try dsimp only at hSw); obtain ⟨s0, a0, a1, a2, a3, a4, a5, a6, b0, b1, b2, b3, b4, b5, b6, c0, c1, c2, c3, c4, c5, c6⟩ := hSw; go_simp)⟩
        simp only [Act.put, List.setIfInBounds_toArray, List.set_cons_zero, List.set_cons_succ]
        refine wpAnyH_take (i := 1) (oi := ?op5q1) (v := iv b) ?hp5q1 (by kernel_rfl) (by kernel_rfl) (by kernel_rfl) (fun _ _ _ h => h) ?yp5q1 (by assumption) ?rp5q1
        case hp5q1 => (simp only [List.getElem?_toArray, List.getElem?_cons_zero, List.getElem?_cons_succ]; rfl)
        case yp5q1 => exact Or.inl ⟨by rfl, by (intro W hSw; (try dsimp only at hSw); obtain ⟨s0, a0, a1, a2, a3, a4, a5, a6, b0, b1, b2, b3, b4, b5, b6, c0, c1, c2, c3, c4, c5, c6⟩ := hSw; go_simp)⟩
        simp only [Act.put, List.setIfInBounds_toArray, List.set_cons_zero, List.set_cons_succ]
        refine wpAnyH_take (i := 4) (oi := ?op5q4) (v := .pointer (some ⟨w.heap.size, 0, none⟩)) ?hp5q4 (by kernel_rfl) (by kernel_rfl) (by kernel_rfl) (fun _ _ _ h => h) ?yp5q4 (by assumption) ?rp5q4
        case hp5q4 => (simp only [List.getElem?_toArray, List.getElem?_cons_zero, List.getElem?_cons_succ]; rfl)
        case yp5q4 => exact Or.inl ⟨by rfl, by (intro W hSw; (try dsimp only at hSw); obtain ⟨s0, a0, a1, a2, a3, a4, a5, a6, b0, b1, b2, b3, b4, b5, b6, c0, c1, c2, c3, c4, c5, c6⟩ := hSw; go_simp)⟩
        simp only [Act.put, List.setIfInBounds_toArray, List.set_cons_zero, List.set_cons_succ]
        refine wpAnyH_take (i := 5) (oi := ?op5q5) (v := .pointer (some ⟨w.heap.size, 0, none⟩)) ?hp5q5 (by kernel_rfl) (by kernel_rfl) (by kernel_rfl) (fun _ _ _ h => h) ?yp5q5 (by assumption) ?rp5q5
        case hp5q5 => (simp only [List.getElem?_toArray, List.getElem?_cons_zero, List.getElem?_cons_succ]; rfl)
        case yp5q5 => exact Or.inl ⟨by rfl, by (intro W hSw; (try dsimp only at hSw); obtain ⟨s0, a0, a1, a2, a3, a4, a5, a6, b0, b1, b2, b3, b4, b5, b6, c0, c1, c2, c3, c4, c5, c6⟩ := hSw; go_simp)⟩
        simp only [Act.put, List.setIfInBounds_toArray, List.set_cons_zero, List.set_cons_succ]
        refine wpAnyH_take (i := 6) (oi := ?op5q6) (v := .string (B a.c.row)) ?hp5q6 (by kernel_rfl) (by kernel_rfl) (by kernel_rfl) (fun _ _ _ h => h) ?yp5q6 (by assumption) ?rp5q6
        case hp5q6 => (simp only [List.getElem?_toArray, List.getElem?_cons_zero, List.getElem?_cons_succ]; rfl)
        case yp5q6 => exact Or.inl ⟨by rfl, by (intro W hSw; (try dsimp only at hSw); obtain ⟨s0, a0, a1, a2, a3, a4, a5, a6, b0, b1, b2, b3, b4, b5, b6, c0, c1, c2, c3, c4, c5, c6⟩ := hSw; go_simp)⟩
        simp only [Act.put, List.setIfInBounds_toArray, List.set_cons_zero, List.set_cons_succ]
        refine wpAnyH_take (i := 7) (oi := ?op5q7) (v := .pointer (some ⟨w.heap.size + 1, 0, none⟩)) ?hp5q7 (by kernel_rfl) (by kernel_rfl) (by kernel_rfl) (fun _ _ _ h => h) ?yp5q7 (by assumption) ?rp5q7
        case hp5q7 => (simp only [List.getElem?_toArray, List.getElem?_cons_zero, List.getElem?_cons_succ]; rfl)
        case yp5q7 => exact Or.inl ⟨by rfl, by (intro W hSw; (try dsimp only at hSw); obtain ⟨s0, a0, a1, a2, a3, a4, a5, a6, b0, b1, b2, b3, b4, b5, b6, c0, c1, c2, c3, c4, c5, c6⟩ := hSw; go_simp)⟩
        simp only [Act.put, List.setIfInBounds_toArray, List.set_cons_zero, List.set_cons_succ]
        refine wpAnyH_take (i := 8) (oi := ?op5q8) (v := .pointer (some ⟨w.heap.size + 1, 0, none⟩)) ?hp5q8 (by kernel_rfl) (by kernel_rfl) (by kernel_rfl) (fun _ _ _ h => h) ?yp5q8 (by assumption) ?rp5q8
        case hp5q8 => (simp only [List.getElem?_toArray, List.getElem?_cons_zero, List.getElem?_cons_succ]; rfl)
        case yp5q8 => exact Or.inl ⟨by rfl, by (intro W hSw; (try dsimp only at hSw); obtain ⟨s0, a0, a1, a2, a3, a4, a5, a6, b0, b1, b2, b3, b4, b5, b6, c0, c1, c2, c3, c4, c5, c6⟩ := hSw; go_simp)⟩
        simp only [Act.put, List.setIfInBounds_toArray, List.set_cons_zero, List.set_cons_succ]
        refine wpAnyH_take (i := 9) (oi := ?op5q9) (v := .string (B b.c.row)) ?hp5q9 (by kernel_rfl) (by kernel_rfl) (by kernel_rfl) (fun _ _ _ h => h) ?yp5q9 (by assumption) ?rp5q9
        case hp5q9 => (simp only [List.getElem?_toArray, List.getElem?_cons_zero, List.getElem?_cons_succ]; rfl)
        case yp5q9 => exact Or.inl ⟨by rfl, by (intro W hSw; (try dsimp only at hSw); obtain ⟨s0, a0, a1, a2, a3, a4, a5, a6, b0, b1, b2, b3, b4, b5, b6, c0, c1, c2, c3, c4, c5, c6⟩ := hSw; go_simp)⟩
        simp only [Act.put, List.setIfInBounds_toArray, List.set_cons_zero, List.set_cons_succ]
        refine wpAnyH_take (i := 10) (oi := ?op5q10) (v := .bool true) ?hp5q10 (by kernel_rfl) (by kernel_rfl) (by kernel_rfl) (fun _ _ _ h => h) ?yp5q10 (by assumption) ?rp5q10
        case hp5q10 => (simp only [List.getElem?_toArray, List.getElem?_cons_zero, List.getElem?_cons_succ]; rfl)
        case yp5q10 => exact Or.inl ⟨by rfl, by (intro W hSw; (try dsimp only at hSw); obtain ⟨s0, a0, a1, a2, a3, a4, a5, a6, b0, b1, b2, b3, b4, b5, b6, c0, c1, c2, c3, c4, c5, c6⟩ := hSw; go_simp)⟩
        simp only [Act.put, List.setIfInBounds_toArray, List.set_cons_zero, List.set_cons_succ]
        refine wpAnyH_ready (rs := [2]) (by kernel_rfl) (by simp) ?_
        refine AllReadyH.cons (o := ?op5q2) ?hp5q2 (fun K hK => ?rp5q2) AllReadyH.nil
        case hp5q2 => (simp only [List.getElem?_toArray, List.getElem?_cons_zero, List.getElem?_cons_succ]; rfl)
        go_simp
        refine (HAB.out _).mono ?_
        rintro r wc1 ⟨rfl, kc1⟩
        refine hK.out _ _ (Tri.held (hHeld0.1.old kc1)) (fun hHeld1 => ?_)
        clear hK K
        try simp only [Act.put, List.setIfInBounds_toArray, List.set_cons_zero, List.set_cons_succ]
        refine wpAnyH_take (i := 3) (oi := ?op5q3) (v := .bool false) ?hp5q3 (by kernel_rfl) (by kernel_rfl) (by kernel_rfl) (fun _ _ _ h => h) ?yp5q3 (by assumption) ?rp5q3
        case hp5q3 => (simp only [List.getElem?_toArray, List.getElem?_cons_zero, List.getElem?_cons_succ]; rfl)
        case yp5q3 => exact Or.inl ⟨by rfl, by (intro W hSw; (try dsimp only at hSw); obtain ⟨s0, a0, a1, a2, a3, a4, a5, a6, b0, b1, b2, b3, b4, b5, b6, c0, c1, c2, c3, c4, c5, c6⟩ := hSw; go_simp)⟩
        simp only [Act.put, List.setIfInBounds_toArray, List.set_cons_zero, List.set_cons_succ]
        refine wpAnyH_take (i := 11) (oi := ?op5q11) (v := .bool true) ?hp5q11 (by kernel_rfl) (by kernel_rfl) (by kernel_rfl) (fun _ _ _ h => h) ?yp5q11 (by assumption) ?rp5q11
        case hp5q11 => (simp only [List.getElem?_toArray, List.getElem?_cons_zero, List.getElem?_cons_succ]; rfl)
        case yp5q11 => exact Or.inl ⟨by rfl, by (intro W hSw; (try dsimp only at hSw); obtain ⟨s0, a0, a1, a2, a3, a4, a5, a6, b0, b1, b2, b3, b4, b5, b6, c0, c1, c2, c3, c4, c5, c6⟩ := hSw; go_simp)⟩
        simp only [Act.put, List.setIfInBounds_toArray, List.set_cons_zero, List.set_cons_succ]
        refine wpAnyH_take (i := 12) (oi := ?op5q12) (v := .pointer (some ⟨w.heap.size, 0, none⟩)) ?hp5q12 (by kernel_rfl) (by kernel_rfl) (by kernel_rfl) (fun _ _ _ h => h) ?yp5q12 (by assumption) ?rp5q12
        case hp5q12 => (simp only [List.getElem?_toArray, List.getElem?_cons_zero, List.getElem?_cons_succ]; rfl)
        case yp5q12 => exact Or.inl ⟨by rfl, by (intro W hSw; (try dsimp only at hSw); obtain ⟨s0, a0, a1, a2, a3, a4, a5, a6, b0, b1, b2, b3, b4, b5, b6, c0, c1, c2, c3, c4, c5, c6⟩ := hSw; go_simp)⟩
        simp only [Act.put, List.setIfInBounds_toArray, List.set_cons_zero, List.set_cons_succ]
        refine wpAnyH_take (i := 13) (oi := ?op5q13) (v := .pointer (some ⟨w.heap.size, 1, none⟩)) ?hp5q13 (by kernel_rfl) (by kernel_rfl) (by kernel_rfl) (fun _ _ _ h => h) ?yp5q13 (by assumption) ?rp5q13
        case hp5q13 => (simp only [List.getElem?_toArray, List.getElem?_cons_zero, List.getElem?_cons_succ]; rfl)
        case yp5q13 => exact Or.inl ⟨by rfl, by (intro W hSw; (try dsimp only at hSw); obtain ⟨s0, a0, a1, a2, a3, a4, a5, a6, b0, b1, b2, b3, b4, b5, b6, c0, c1, c2, c3, c4, c5, c6⟩ := hSw; go_simp)⟩
        simp only [Act.put, List.setIfInBounds_toArray, List.set_cons_zero, List.set_cons_succ]
        refine wpAnyH_take (i := 14) (oi := ?op5q14) (v := .string (B a.c.col)) ?hp5q14 (by kernel_rfl) (by kernel_rfl) (by kernel_rfl) (fun _ _ _ h => h) ?yp5q14 (by assumption) ?rp5q14
        case hp5q14 => (simp only [List.getElem?_toArray, List.getElem?_cons_zero, List.getElem?_cons_succ]; rfl)
        case yp5q14 => exact Or.inl ⟨by rfl, by (intro W hSw; (try dsimp only at hSw); obtain ⟨s0, a0, a1, a2, a3, a4, a5, a6, b0, b1, b2, b3, b4, b5, b6, c0, c1, c2, c3, c4, c5, c6⟩ := hSw; go_simp)⟩
        simp only [Act.put, List.setIfInBounds_toArray, List.set_cons_zero, List.set_cons_succ]
        refine wpAnyH_take (i := 15) (oi := ?op5q15) (v := .pointer (some ⟨w.heap.size + 1, 0, none⟩)) ?hp5q15 (by kernel_rfl) (by kernel_rfl) (by kernel_rfl) (fun _ _ _ h => h) ?yp5q15 (by assumption) ?rp5q15
        case hp5q15 => (simp only [List.getElem?_toArray, List.getElem?_cons_zero, List.getElem?_cons_succ]; rfl)
        case yp5q15 => exact Or.inl ⟨by rfl, by (intro W hSw; (try dsimp only at hSw); obtain ⟨s0, a0, a1, a2, a3, a4, a5, a6, b0, b1, b2, b3, b4, b5, b6, c0, c1, c2, c3, c4, c5, c6⟩ := hSw; go_simp)⟩
        simp only [Act.put, List.setIfInBounds_toArray, List.set_cons_zero, List.set_cons_succ]
        refine wpAnyH_take (i := 16) (oi := ?op5q16) (v := .pointer (some ⟨w.heap.size + 1, 1, none⟩)) ?hp5q16 (by kernel_rfl) (by kernel_rfl) (by kernel_rfl) (fun _ _ _ h => h) ?yp5q16 (by assumption) ?rp5q16
        case hp5q16 => (simp only [List.getElem?_toArray, List.getElem?_cons_zero, List.getElem?_cons_succ]; rfl)
        case yp5q16 => exact Or.inl ⟨by rfl, by (intro W hSw; (try dsimp only at hSw); obtain ⟨s0, a0, a1, a2, a3, a4, a5, a6, b0, b1, b2, b3, b4, b5, b6, c0, c1, c2, c3, c4, c5, c6⟩ := hSw; go_simp)⟩
        simp only [Act.put, List.setIfInBounds_toArray, List.set_cons_zero, List.set_cons_succ]
        refine wpAnyH_take (i := 17) (oi := ?op5q17) (v := .string (B b.c.col)) ?hp5q17 (by kernel_rfl) (by kernel_rfl) (by kernel_rfl) (fun _ _ _ h => h) ?yp5q17 (by assumption) ?rp5q17
        case hp5q17 => (simp only [List.getElem?_toArray, List.getElem?_cons_zero, List.getElem?_cons_succ]; rfl)
        case yp5q17 => exact Or.inl ⟨by rfl, by (intro W hSw; (try dsimp only at hSw); obtain ⟨s0, a0, a1, a2, a3, a4, a5, a6, b0, b1, b2, b3, b4, b5, b6, c0, c1, c2, c3, c4, c5, c6⟩ := hSw; go_simp)⟩
        simp only [Act.put, List.setIfInBounds_toArray, List.set_cons_zero, List.set_cons_succ]
        refine wpAnyH_take (i := 18) (oi := ?op5q18) (v := .bool false) ?hp5q18 (by kernel_rfl) (by kernel_rfl) (by kernel_rfl) (fun _ _ _ h => h) ?yp5q18 (by assumption) ?rp5q18
        case hp5q18 => (simp only [List.getElem?_toArray, List.getElem?_cons_zero, List.getElem?_cons_succ]; rfl)
        case yp5q18 => exact Or.inl ⟨by rfl, by (intro W hSw; (try dsimp only at hSw); obtain ⟨s0, a0, a1, a2, a3, a4, a5, a6, b0, b1, b2, b3, b4, b5, b6, c0, c1, c2, c3, c4, c5, c6⟩ := hSw; go_simp)⟩
        simp only [Act.put, List.setIfInBounds_toArray, List.set_cons_zero, List.set_cons_succ]
        refine wpAnyH_take (i := 19) (oi := ?op5q19) (v := .bool false) ?hp5q19 (by kernel_rfl) (by kernel_rfl) (by kernel_rfl) (fun _ _ _ h => h) ?yp5q19 (by assumption) ?rp5q19
        case hp5q19 => (simp only [List.getElem?_toArray, List.getElem?_cons_zero, List.getElem?_cons_succ]; rfl)
        case yp5q19 => exact Or.inl ⟨by rfl, by (intro W hSw; (try dsimp only at hSw); obtain ⟨s0, a0, a1, a2, a3, a4, a5, a6, b0, b1, b2, b3, b4, b5, b6, c0, c1, c2, c3, c4, c5, c6⟩ := hSw; go_simp)⟩
        simp only [Act.put, List.setIfInBounds_toArray, List.set_cons_zero, List.set_cons_succ]
        refine wpAnyH_take (i := 20) (oi := ?op5q20) (v := .bool false) ?hp5q20 (by kernel_rfl) (by kernel_rfl) (by kernel_rfl) (fun _ _ _ h => h) ?yp5q20 (by assumption) ?rp5q20
        case hp5q20 => (simp only [List.getElem?_toArray, List.getElem?_cons_zero, List.getElem?_cons_succ]; rfl)
        case yp5q20 => exact Or.inl ⟨by rfl, by (intro W hSw; (try dsimp only at hSw); obtain ⟨s0, a0, a1, a2, a3, a4, a5, a6, b0, b1, b2, b3, b4, b5, b6, c0, c1, c2, c3, c4, c5, c6⟩ := hSw; go_simp)⟩
        simp only [Act.put, List.setIfInBounds_toArray, List.set_cons_zero, List.set_cons_succ]
        refine wpAnyH_take (i := 21) (oi := ?op5q21) (v := undef) ?hp5q21 (by kernel_rfl) (by kernel_rfl) (by kernel_rfl) (fun _ _ _ h => h) ?yp5q21 (by assumption) ?rp5q21
        case hp5q21 => (simp only [List.getElem?_toArray, List.getElem?_cons_zero, List.getElem?_cons_succ]; rfl)
        case yp5q21 => exact Or.inr ⟨by rfl, rfl⟩
        simp only [Act.put, List.setIfInBounds_toArray, List.set_cons_zero, List.set_cons_succ]
        refine wpAnyH_take (i := 22) (oi := ?op5q22) (v := undef) ?hp5q22 (by kernel_rfl) (by kernel_rfl) (by kernel_rfl) (fun _ _ _ h => h) ?yp5q22 (by assumption) ?rp5q22
        case hp5q22 => (simp only [List.getElem?_toArray, List.getElem?_cons_zero, List.getElem?_cons_succ]; rfl)
        case yp5q22 => exact Or.inr ⟨by rfl, rfl⟩
        simp only [Act.put, List.setIfInBounds_toArray, List.set_cons_zero, List.set_cons_succ]
        refine wpAnyH_take (i := 23) (oi := ?op5q23) (v := undef) ?hp5q23 (by kernel_rfl) (by kernel_rfl) (by kernel_rfl) (fun _ _ _ h => h) ?yp5q23 (by assumption) ?rp5q23
        case hp5q23 => (simp only [List.getElem?_toArray, List.getElem?_cons_zero, List.getElem?_cons_succ]; rfl)
        case yp5q23 => exact Or.inr ⟨by rfl, rfl⟩
        simp only [Act.put, List.setIfInBounds_toArray, List.set_cons_zero, List.set_cons_succ]
        refine wpAnyH_take (i := 24) (oi := ?op5q24) (v := undef) ?hp5q24 (by kernel_rfl) (by kernel_rfl) (by kernel_rfl) (fun _ _ _ h => h) ?yp5q24 (by assumption) ?rp5q24
        case hp5q24 => (simp only [List.getElem?_toArray, List.getElem?_cons_zero, List.getElem?_cons_succ]; rfl)
        case yp5q24 => exact Or.inr ⟨by rfl, rfl⟩
        simp only [Act.put, List.setIfInBounds_toArray, List.set_cons_zero, List.set_cons_succ]
        refine wpAnyH_take (i := 25) (oi := ?op5q25) (v := undef) ?hp5q25 (by kernel_rfl) (by kernel_rfl) (by kernel_rfl) (fun _ _ _ h => h) ?yp5q25 (by assumption) ?rp5q25
        case hp5q25 => (simp only [List.getElem?_toArray, List.getElem?_cons_zero, List.getElem?_cons_succ]; rfl)
        case yp5q25 => exact Or.inr ⟨by rfl, rfl⟩
        simp only [Act.put, List.setIfInBounds_toArray, List.set_cons_zero, List.set_cons_succ]
        refine wpAnyH_take (i := 26) (oi := ?op5q26) (v := undef) ?hp5q26 (by kernel_rfl) (by kernel_rfl) (by kernel_rfl) (fun _ _ _ h => h) ?yp5q26 (by assumption) ?rp5q26
        case hp5q26 => (simp only [List.getElem?_toArray, List.getElem?_cons_zero, List.getElem?_cons_succ]; rfl)
        case yp5q26 => exact Or.inr ⟨by rfl, rfl⟩
        simp only [Act.put, List.setIfInBounds_toArray, List.set_cons_zero, List.set_cons_succ]
        refine wpAnyH_take (i := 27) (oi := ?op5q27) (v := undef) ?hp5q27 (by kernel_rfl) (by kernel_rfl) (by kernel_rfl) (fun _ _ _ h => h) ?yp5q27 (by assumption) ?rp5q27
        case hp5q27 => (simp only [List.getElem?_toArray, List.getElem?_cons_zero, List.getElem?_cons_succ]; rfl)
        case yp5q27 => exact Or.inr ⟨by rfl, rfl⟩
        simp only [Act.put, List.setIfInBounds_toArray, List.set_cons_zero, List.set_cons_succ]
        refine wpAnyH_take (i := 28) (oi := ?op5q28) (v := .bool false) ?hp5q28 (by kernel_rfl) (by kernel_rfl) (by kernel_rfl) (fun _ _ _ h => h) ?yp5q28 (by assumption) ?rp5q28
        case hp5q28 => (simp only [List.getElem?_toArray, List.getElem?_cons_zero, List.getElem?_cons_succ]; rfl)
        case yp5q28 => exact Or.inl ⟨by rfl, by (intro W hSw; (try dsimp only at hSw); obtain ⟨s0, a0, a1, a2, a3, a4, a5, a6, b0, b1, b2, b3, b4, b5, b6, c0, c1, c2, c3, c4, c5, c6⟩ := hSw; go_simp)⟩
        simp only [Act.put, List.setIfInBounds_toArray, List.set_cons_zero, List.set_cons_succ]
        refine wpAnyH_take (i := 29) (oi := ?op5q29) (v := .bool false) ?hp5q29 (by kernel_rfl) (by kernel_rfl) (by kernel_rfl) (fun _ _ _ h => h) ?yp5q29 (by assumption) ?rp5q29
        case hp5q29 => (simp only [List.getElem?_toArray, List.getElem?_cons_zero, List.getElem?_cons_succ]; rfl)
        case yp5q29 => exact Or.inl ⟨by rfl, by (intro W hSw; (try dsimp only at hSw); obtain ⟨s0, a0, a1, a2, a3, a4, a5, a6, b0, b1, b2, b3, b4, b5, b6, c0, c1, c2, c3, c4, c5, c6⟩ := hSw; go_simp)⟩
        simp only [Act.put, List.setIfInBounds_toArray, List.set_cons_zero, List.set_cons_succ]
        refine wpAnyH_take (i := 30) (oi := ?op5q30) (v := undef) ?hp5q30 (by kernel_rfl) (by kernel_rfl) (by kernel_rfl) (fun _ _ _ h => h) ?yp5q30 (by assumption) ?rp5q30
        case hp5q30 => (simp only [List.getElem?_toArray, List.getElem?_cons_zero, List.getElem?_cons_succ]; rfl)
        case yp5q30 => exact Or.inr ⟨by rfl, rfl⟩
        simp only [Act.put, List.setIfInBounds_toArray, List.set_cons_zero, List.set_cons_succ]
        refine wpAnyH_take (i := 31) (oi := ?op5q31) (v := undef) ?hp5q31 (by kernel_rfl) (by kernel_rfl) (by kernel_rfl) (fun _ _ _ h => h) ?yp5q31 (by assumption) ?rp5q31
        case hp5q31 => (simp only [List.getElem?_toArray, List.getElem?_cons_zero, List.getElem?_cons_succ]; rfl)
        case yp5q31 => exact Or.inr ⟨by rfl, rfl⟩
        simp only [Act.put, List.setIfInBounds_toArray, List.set_cons_zero, List.set_cons_succ]
        refine wpAnyH_take (i := 32) (oi := ?op5q32) (v := undef) ?hp5q32 (by kernel_rfl) (by kernel_rfl) (by kernel_rfl) (fun _ _ _ h => h) ?yp5q32 (by assumption) ?rp5q32
        case hp5q32 => (simp only [List.getElem?_toArray, List.getElem?_cons_zero, List.getElem?_cons_succ]; rfl)
        case yp5q32 => exact Or.inr ⟨by rfl, rfl⟩
        simp only [Act.put, List.setIfInBounds_toArray, List.set_cons_zero, List.set_cons_succ]
        refine wpAnyH_take (i := 33) (oi := ?op5q33) (v := undef) ?hp5q33 (by kernel_rfl) (by kernel_rfl) (by kernel_rfl) (fun _ _ _ h => h) ?yp5q33 (by assumption) ?rp5q33
        case hp5q33 => (simp only [List.getElem?_toArray, List.getElem?_cons_zero, List.getElem?_cons_succ]; rfl)
        case yp5q33 => exact Or.inr ⟨by rfl, rfl⟩
        simp only [Act.put, List.setIfInBounds_toArray, List.set_cons_zero, List.set_cons_succ]
        refine wpAnyH_take (i := 34) (oi := ?op5q34) (v := undef) ?hp5q34 (by kernel_rfl) (by kernel_rfl) (by kernel_rfl) (fun _ _ _ h => h) ?yp5q34 (by assumption) ?rp5q34
        case hp5q34 => (simp only [List.getElem?_toArray, List.getElem?_cons_zero, List.getElem?_cons_succ]; rfl)
        case yp5q34 => exact Or.inr ⟨by rfl, rfl⟩
        simp only [Act.put, List.setIfInBounds_toArray, List.set_cons_zero, List.set_cons_succ]
        refine wpAnyH_take (i := 35) (oi := ?op5q35) (v := .bool false) ?hp5q35 (by kernel_rfl) (by kernel_rfl) (by kernel_rfl) (fun _ _ _ h => h) ?yp5q35 (by assumption) ?rp5q35
        case hp5q35 => (simp only [List.getElem?_toArray, List.getElem?_cons_zero, List.getElem?_cons_succ]; rfl)
        case yp5q35 => exact Or.inl ⟨by rfl, by (intro W hSw; (try dsimp only at hSw); obtain ⟨s0, a0, a1, a2, a3, a4, a5, a6, b0, b1, b2, b3, b4, b5, b6, c0, c1, c2, c3, c4, c5, c6⟩ := hSw; go_simp)⟩
        simp only [Act.put, List.setIfInBounds_toArray, List.set_cons_zero, List.set_cons_succ]
        refine wpAnyH_take (i := 36) (oi := ?op5q36) (v := .bool true) ?hp5q36 (by kernel_rfl) (by kernel_rfl) (by kernel_rfl) (fun _ _ _ h => h) ?yp5q36 (by assumption) ?rp5q36
        case hp5q36 => (simp only [List.getElem?_toArray, List.getElem?_cons_zero, List.getElem?_cons_succ]; rfl)
        case yp5q36 => exact Or.inl ⟨by rfl, by (intro W hSw; (try dsimp only at hSw); obtain ⟨s0, a0, a1, a2, a3, a4, a5, a6, b0, b1, b2, b3, b4, b5, b6, c0, c1, c2, c3, c4, c5, c6⟩ := hSw; go_simp)⟩
        simp only [Act.put, List.setIfInBounds_toArray, List.set_cons_zero, List.set_cons_succ]
        refine wpAnyH_take (i := 37) (oi := ?op5q37) (v := .bool true) ?hp5q37 (by kernel_rfl) (by kernel_rfl) (by kernel_rfl) (fun _ _ _ h => h) ?yp5q37 (by assumption) ?rp5q37
        case hp5q37 => (simp only [List.getElem?_toArray, List.getElem?_cons_zero, List.getElem?_cons_succ]; rfl)
        case yp5q37 => exact Or.inl ⟨by rfl, by (intro W hSw; (try dsimp only at hSw); obtain ⟨s0, a0, a1, a2, a3, a4, a5, a6, b0, b1, b2, b3, b4, b5, b6, c0, c1, c2, c3, c4, c5, c6⟩ := hSw; go_simp)⟩
        simp only [Act.put, List.setIfInBounds_toArray, List.set_cons_zero, List.set_cons_succ]
        refine wpAnyH_done (by kernel_rfl) ?_ _
        refine NoPanic.normal ?_
        have o9 := hHeld1.1.od
        clear hHeld0 hHeld1 ft
        go_wp2
        go_ret
        exact ⟨rfl, o9⟩
    by_cases e3 : a.c.ts = b.c.ts
    case neg =>
          have dz : (x == 0) = false := by rw [beq_eq_false_iff_ne]; exact fun h => e3 (HZ.out.1 h).2.2.1
          have dt : ((a.c.ts : Int) == (b.c.ts : Int)) = false := by rw [beq_eq_false_iff_ne]; omega
          go_upto_region 5 with (fail)
          refine wp_region_noPanic ?_
          refine wp_region_held_drew (S := fun W => Tri w W a b c ∧ W.cell? ⟨w.heap.size, 0, none⟩ = some (.string (B a.c.row)) ∧ W.cell? ⟨w.heap.size, 1, none⟩ = some (.string (B a.c.col)) ∧ W.cell? ⟨w.heap.size, 2, none⟩ = some (.int .u64 a.c.ts) ∧ W.cell? ⟨w.heap.size, 3, none⟩ = some (.int .u64 a.c.seq) ∧ W.cell? ⟨w.heap.size, 4, none⟩ = some (.bool a.c.del) ∧ W.cell? ⟨w.heap.size, 5, none⟩ = some (.string (B a.c.val)) ∧ W.cell? ⟨w.heap.size, 6, none⟩ = some (.int .i64 a.pos) ∧ W.cell? ⟨w.heap.size + 1, 0, none⟩ = some (.string (B b.c.row)) ∧ W.cell? ⟨w.heap.size + 1, 1, none⟩ = some (.string (B b.c.col)) ∧ W.cell? ⟨w.heap.size + 1, 2, none⟩ = some (.int .u64 b.c.ts) ∧ W.cell? ⟨w.heap.size + 1, 3, none⟩ = some (.int .u64 b.c.seq) ∧ W.cell? ⟨w.heap.size + 1, 4, none⟩ = some (.bool b.c.del) ∧ W.cell? ⟨w.heap.size + 1, 5, none⟩ = some (.string (B b.c.val)) ∧ W.cell? ⟨w.heap.size + 1, 6, none⟩ = some (.int .i64 b.pos) ∧ W.cell? ⟨w.heap.size + 1 + 1, 0, none⟩ = some (.string (B c.c.row)) ∧ W.cell? ⟨w.heap.size + 1 + 1, 1, none⟩ = some (.string (B c.c.col)) ∧ W.cell? ⟨w.heap.size + 1 + 1, 2, none⟩ = some (.int .u64 c.c.ts) ∧ W.cell? ⟨w.heap.size + 1 + 1, 3, none⟩ = some (.int .u64 c.c.seq) ∧ W.cell? ⟨w.heap.size + 1 + 1, 4, none⟩ = some (.bool c.c.del) ∧ W.cell? ⟨w.heap.size + 1 + 1, 5, none⟩ = some (.string (B c.c.val)) ∧ W.cell? ⟨w.heap.size + 1 + 1, 6, none⟩ = some (.int .i64 c.pos)) (by kernel_rfl) (Tri.held (ft.old (Old.re _).dr)) (fun hHeld0 => ?_)
          refine wpAnyH_take (i := 0) (oi := ?op6q0) (v := iv a) ?hp6q0 (by kernel_rfl) (by kernel_rfl) (by kernel_rfl) (fun _ _ _ h => h) ?yp6q0 (by assumption) ?rp6q0
          case hp6q0 => (simp only [List.getElem?_toArray, List.getElem?_cons_zero]; rfl)
          case yp6q0 => exact Or.inl ⟨by rfl, by (intro W hSw; (try dsimp only at hSw); obtain ⟨s0, a0, a1, a2, a3, a4, a5, a6, b0, b1, b2, b3, b4, b5, b6, c0, c1, c2, c3, c4, c5, c6⟩ := hSw; go_simp)⟩
          simp only [Act.put, List.setIfInBounds_toArray, List.set_cons_zero, List.set_cons_succ]
          refine wpAnyH_take (i := 1) (oi := ?op6q1) (v := iv b) ?hp6q1 (by kernel_rfl) (by kernel_rfl) (by kernel_rfl) (fun _ _ _ h => h) ?yp6q1 (by assumption) ?rp6q1
          case hp6q1 => (simp only [List.getElem?_toArray, List.getElem?_cons_zero, List.getElem?_cons_succ]; rfl)
          case yp6q1 => exact Or.inl ⟨by rfl, by (intro W hSw; (try dsimp only at hSw); obtain ⟨s0, a0, a1, a2, a3, a4, a5, a6, b0, b1, b2, b3, b4, b5, b6, c0, c1, c2, c3, c4, c5, c6⟩ := hSw; go_simp)⟩
          simp only [Act.put, List.setIfInBounds_toArray, List.set_cons_zero, List.set_cons_succ]
          refine wpAnyH_take (i := 4) (oi := ?op6q4) (v := .pointer (some ⟨w.heap.size, 0, none⟩)) ?hp6q4 (by kernel_rfl) (by kernel_rfl) (by kernel_rfl) (fun _ _ _ h => h) ?yp6q4 (by assumption) ?rp6q4
          case hp6q4 => (simp only [List.getElem?_toArray, List.getElem?_cons_zero, List.getElem?_cons_succ]; rfl)
          case yp6q4 => exact Or.inl ⟨by rfl, by (intro W hSw; (try dsimp only at hSw); obtain ⟨s0, a0, a1, a2, a3, a4, a5, a6, b0, b1, b2, b3, b4, b5, b6, c0, c1, c2, c3, c4, c5, c6⟩ := hSw; go_simp)⟩
          simp only [Act.put, List.setIfInBounds_toArray, List.set_cons_zero, List.set_cons_succ]
          refine wpAnyH_take (i := 5) (oi := ?op6q5) (v := .pointer (some ⟨w.heap.size, 0, none⟩)) ?hp6q5 (by kernel_rfl) (by kernel_rfl) (by kernel_rfl) (fun _ _ _ h => h) ?yp6q5 (by assumption) ?rp6q5
          case hp6q5 => (simp only [List.getElem?_toArray, List.getElem?_cons_zero, List.getElem?_cons_succ]; rfl)
          case yp6q5 => exact Or.inl ⟨by rfl, by (intro W hSw; (try dsimp only at hSw); obtain ⟨s0, a0, a1, a2, a3, a4, a5, a6, b0, b1, b2, b3, b4, b5, b6, c0, c1, c2, c3, c4, c5, c6⟩ := hSw; go_simp)⟩
          simp only [Act.put, List.setIfInBounds_toArray, List.set_cons_zero, List.set_cons_succ]
          refine wpAnyH_take (i := 6) (oi := ?op6q6) (v := .string (B a.c.row)) ?hp6q6 (by kernel_rfl) (by kernel_rfl) (by kernel_rfl) (fun _ _ _ h => h) ?yp6q6 (by assumption) ?rp6q6
          case hp6q6 => (simp only [List.getElem?_toArray, List.getElem?_cons_zero, List.getElem?_cons_succ]; rfl)
          case yp6q6 => exact Or.inl ⟨by rfl, by (intro W hSw; (try dsimp only at hSw); obtain ⟨s0, a0, a1, a2, a3, a4, a5, a6, b0, b1, b2, b3, b4, b5, b6, c0, c1, c2, c3, c4, c5, c6⟩ := hSw; go_simp)⟩
          simp only [Act.put, List.setIfInBounds_toArray, List.set_cons_zero, List.set_cons_succ]
          refine wpAnyH_take (i := 7) (oi := ?op6q7) (v := .pointer (some ⟨w.heap.size + 1, 0, none⟩)) ?hp6q7 (by kernel_rfl) (by kernel_rfl) (by kernel_rfl) (fun _ _ _ h => h) ?yp6q7 (by assumption) ?rp6q7
          case hp6q7 => (simp only [List.getElem?_toArray, List.getElem?_cons_zero, List.getElem?_cons_succ]; rfl)
          case yp6q7 => exact Or.inl ⟨by rfl, by (intro W hSw; (try dsimp only at hSw); obtain ⟨s0, a0, a1, a2, a3, a4, a5, a6, b0, b1, b2, b3, b4, b5, b6, c0, c1, c2, c3, c4, c5, c6⟩ := hSw; go_simp)⟩
          simp only [Act.put, List.setIfInBounds_toArray, List.set_cons_zero, List.set_cons_succ]
          refine wpAnyH_take (i := 8) (oi := ?op6q8) (v := .pointer (some ⟨w.heap.size + 1, 0, none⟩)) ?hp6q8 (by kernel_rfl) (by kernel_rfl) (by kernel_rfl) (fun _ _ _ h => h) ?yp6q8 (by assumption) ?rp6q8
          case hp6q8 => (simp only [List.getElem?_toArray, List.getElem?_cons_zero, List.getElem?_cons_succ]; rfl)
          case yp6q8 => exact Or.inl ⟨by rfl, by (intro W hSw; (try dsimp only at hSw); obtain ⟨s0, a0, a1, a2, a3, a4, a5, a6, b0, b1, b2, b3, b4, b5, b6, c0, c1, c2, c3, c4, c5, c6⟩ := hSw; go_simp)⟩
          simp only [Act.put, List.setIfInBounds_toArray, List.set_cons_zero, List.set_cons_succ]
          refine wpAnyH_take (i := 9) (oi := ?op6q9) (v := .string (B b.c.row)) ?hp6q9 (by kernel_rfl) (by kernel_rfl) (by kernel_rfl) (fun _ _ _ h => h) ?yp6q9 (by assumption) ?rp6q9
          case hp6q9 => (simp only [List.getElem?_toArray, List.getElem?_cons_zero, List.getElem?_cons_succ]; rfl)
          case yp6q9 => exact Or.inl ⟨by rfl, by (intro W hSw; (try dsimp only at hSw); obtain ⟨s0, a0, a1, a2, a3, a4, a5, a6, b0, b1, b2, b3, b4, b5, b6, c0, c1, c2, c3, c4, c5, c6⟩ := hSw; go_simp)⟩
          simp only [Act.put, List.setIfInBounds_toArray, List.set_cons_zero, List.set_cons_succ]
          refine wpAnyH_take (i := 10) (oi := ?op6q10) (v := .bool true) ?hp6q10 (by kernel_rfl) (by kernel_rfl) (by kernel_rfl) (fun _ _ _ h => h) ?yp6q10 (by assumption) ?rp6q10
          case hp6q10 => (simp only [List.getElem?_toArray, List.getElem?_cons_zero, List.getElem?_cons_succ]; rfl)
          case yp6q10 => exact Or.inl ⟨by rfl, by (intro W hSw; (try dsimp only at hSw); obtain ⟨s0, a0, a1, a2, a3, a4, a5, a6, b0, b1, b2, b3, b4, b5, b6, c0, c1, c2, c3, c4, c5, c6⟩ := hSw; go_simp)⟩
          simp only [Act.put, List.setIfInBounds_toArray, List.set_cons_zero, List.set_cons_succ]
          refine wpAnyH_ready (rs := [2]) (by kernel_rfl) (by simp) ?_
          refine AllReadyH.cons (o := ?op6q2) ?hp6q2 (fun K hK => ?rp6q2) AllReadyH.nil
          case hp6q2 => (simp only [List.getElem?_toArray, List.getElem?_cons_zero, List.getElem?_cons_succ]; rfl)
          go_simp
          refine (HAB.out _).mono ?_
          rintro r wc1 ⟨rfl, kc1⟩
          refine hK.out _ _ (Tri.held (hHeld0.1.old kc1)) (fun hHeld1 => ?_)
          clear hK K
          try simp only [Act.put, List.setIfInBounds_toArray, List.set_cons_zero, List.set_cons_succ]
          refine wpAnyH_take (i := 3) (oi := ?op6q3) (v := .bool false) ?hp6q3 (by kernel_rfl) (by kernel_rfl) (by kernel_rfl) (fun _ _ _ h => h) ?yp6q3 (by assumption) ?rp6q3
          case hp6q3 => (simp only [List.getElem?_toArray, List.getElem?_cons_zero, List.getElem?_cons_succ]; rfl)
          case yp6q3 => exact Or.inl ⟨by rfl, by (intro W hSw; (try dsimp only at hSw); obtain ⟨s0, a0, a1, a2, a3, a4, a5, a6, b0, b1, b2, b3, b4, b5, b6, c0, c1, c2, c3, c4, c5, c6⟩ := hSw; go_simp)⟩
          simp only [Act.put, List.setIfInBounds_toArray, List.set_cons_zero, List.set_cons_succ]
          refine wpAnyH_take (i := 11) (oi := ?op6q11) (v := .bool true) ?hp6q11 (by kernel_rfl) (by kernel_rfl) (by kernel_rfl) (fun _ _ _ h => h) ?yp6q11 (by assumption) ?rp6q11
          case hp6q11 => (simp only [List.getElem?_toArray, List.getElem?_cons_zero, List.getElem?_cons_succ]; rfl)
          case yp6q11 => exact Or.inl ⟨by rfl, by (intro W hSw; (try dsimp only at hSw); obtain ⟨s0, a0, a1, a2, a3, a4, a5, a6, b0, b1, b2, b3, b4, b5, b6, c0, c1, c2, c3, c4, c5, c6⟩ := hSw; go_simp)⟩
          simp only [Act.put, List.setIfInBounds_toArray, List.set_cons_zero, List.set_cons_succ]
          refine wpAnyH_take (i := 12) (oi := ?op6q12) (v := .pointer (some ⟨w.heap.size, 0, none⟩)) ?hp6q12 (by kernel_rfl) (by kernel_rfl) (by kernel_rfl) (fun _ _ _ h => h) ?yp6q12 (by assumption) ?rp6q12
          case hp6q12 => (simp only [List.getElem?_toArray, List.getElem?_cons_zero, List.getElem?_cons_succ]; rfl)
          case yp6q12 => exact Or.inl ⟨by rfl, by (intro W hSw; (try dsimp only at hSw); obtain ⟨s0, a0, a1, a2, a3, a4, a5, a6, b0, b1, b2, b3, b4, b5, b6, c0, c1, c2, c3, c4, c5, c6⟩ := hSw; go_simp)⟩
          simp only [Act.put, List.setIfInBounds_toArray, List.set_cons_zero, List.set_cons_succ]
          refine wpAnyH_take (i := 13) (oi := ?op6q13) (v := .pointer (some ⟨w.heap.size, 1, none⟩)) ?hp6q13 (by kernel_rfl) (by kernel_rfl) (by kernel_rfl) (fun _ _ _ h => h) ?yp6q13 (by assumption) ?rp6q13
          case hp6q13 => (simp only [List.getElem?_toArray, List.getElem?_cons_zero, List.getElem?_cons_succ]; rfl)
          case yp6q13 => exact Or.inl ⟨by rfl, by (intro W hSw; (try dsimp only at hSw); obtain ⟨s0, a0, a1, a2, a3, a4, a5, a6, b0, b1, b2, b3, b4, b5, b6, c0, c1, c2, c3, c4, c5, c6⟩ := hSw; go_simp)⟩
          simp only [Act.put, List.setIfInBounds_toArray, List.set_cons_zero, List.set_cons_succ]
          refine wpAnyH_take (i := 14) (oi := ?op6q14) (v := .string (B a.c.col)) ?hp6q14 (by kernel_rfl) (by kernel_rfl) (by kernel_rfl) (fun _ _ _ h => h) ?yp6q14 (by assumption) ?rp6q14
          case hp6q14 => (simp only [List.getElem?_toArray, List.getElem?_cons_zero, List.getElem?_cons_succ]; rfl)
          case yp6q14 => exact Or.inl ⟨by rfl, by (intro W hSw; (try dsimp only at hSw); obtain ⟨s0, a0, a1, a2, a3, a4, a5, a6, b0, b1, b2, b3, b4, b5, b6, c0, c1, c2, c3, c4, c5, c6⟩ := hSw; go_simp)⟩
          simp only [Act.put, List.setIfInBounds_toArray, List.set_cons_zero, List.set_cons_succ]
          refine wpAnyH_take (i := 15) (oi := ?op6q15) (v := .pointer (some ⟨w.heap.size + 1, 0, none⟩)) ?hp6q15 (by kernel_rfl) (by kernel_rfl) (by kernel_rfl) (fun _ _ _ h => h) ?yp6q15 (by assumption) ?rp6q15
          case hp6q15 => (simp only [List.getElem?_toArray, List.getElem?_cons_zero, List.getElem?_cons_succ]; rfl)
          case yp6q15 => exact Or.inl ⟨by rfl, by (intro W hSw; (try dsimp only at hSw); obtain ⟨s0, a0, a1, a2, a3, a4, a5, a6, b0, b1, b2, b3, b4, b5, b6, c0, c1, c2, c3, c4, c5, c6⟩ := hSw; go_simp)⟩
          simp only [Act.put, List.setIfInBounds_toArray, List.set_cons_zero, List.set_cons_succ]
          refine wpAnyH_take (i := 16) (oi := ?op6q16) (v := .pointer (some ⟨w.heap.size + 1, 1, none⟩)) ?hp6q16 (by kernel_rfl) (by kernel_rfl) (by kernel_rfl) (fun _ _ _ h => h) ?yp6q16 (by assumption) ?rp6q16
          case hp6q16 => (simp only [List.getElem?_toArray, List.getElem?_cons_zero, List.getElem?_cons_succ]; rfl)
          case yp6q16 => exact Or.inl ⟨by rfl, by (intro W hSw; (try dsimp only at hSw); obtain ⟨s0, a0, a1, a2, a3, a4, a5, a6, b0, b1, b2, b3, b4, b5, b6, c0, c1, c2, c3, c4, c5, c6⟩ := hSw; go_simp)⟩
          simp only [Act.put, List.setIfInBounds_toArray, List.set_cons_zero, List.set_cons_succ]
          refine wpAnyH_take (i := 17) (oi := ?op6q17) (v := .string (B b.c.col)) ?hp6q17 (by kernel_rfl) (by kernel_rfl) (by kernel_rfl) (fun _ _ _ h => h) ?yp6q17 (by assumption) ?rp6q17
          case hp6q17 => (simp only [List.getElem?_toArray, List.getElem?_cons_zero, List.getElem?_cons_succ]; rfl)
          case yp6q17 => exact Or.inl ⟨by rfl, by (intro W hSw; (try dsimp only at hSw); obtain ⟨s0, a0, a1, a2, a3, a4, a5, a6, b0, b1, b2, b3, b4, b5, b6, c0, c1, c2, c3, c4, c5, c6⟩ := hSw; go_simp)⟩
          simp only [Act.put, List.setIfInBounds_toArray, List.set_cons_zero, List.set_cons_succ]
          refine wpAnyH_take (i := 18) (oi := ?op6q18) (v := .bool true) ?hp6q18 (by kernel_rfl) (by kernel_rfl) (by kernel_rfl) (fun _ _ _ h => h) ?yp6q18 (by assumption) ?rp6q18
          case hp6q18 => (simp only [List.getElem?_toArray, List.getElem?_cons_zero, List.getElem?_cons_succ]; rfl)
          case yp6q18 => exact Or.inl ⟨by rfl, by (intro W hSw; (try dsimp only at hSw); obtain ⟨s0, a0, a1, a2, a3, a4, a5, a6, b0, b1, b2, b3, b4, b5, b6, c0, c1, c2, c3, c4, c5, c6⟩ := hSw; go_simp)⟩
          simp only [Act.put, List.setIfInBounds_toArray, List.set_cons_zero, List.set_cons_succ]
          refine wpAnyH_take (i := 19) (oi := ?op6q19) (v := .bool true) ?hp6q19 (by kernel_rfl) (by kernel_rfl) (by kernel_rfl) (fun _ _ _ h => h) ?yp6q19 (by assumption) ?rp6q19
          case hp6q19 => (simp only [List.getElem?_toArray, List.getElem?_cons_zero, List.getElem?_cons_succ]; rfl)
          case yp6q19 => exact Or.inl ⟨by rfl, by (intro W hSw; (try dsimp only at hSw); obtain ⟨s0, a0, a1, a2, a3, a4, a5, a6, b0, b1, b2, b3, b4, b5, b6, c0, c1, c2, c3, c4, c5, c6⟩ := hSw; go_simp)⟩
          simp only [Act.put, List.setIfInBounds_toArray, List.set_cons_zero, List.set_cons_succ]
          refine wpAnyH_take (i := 20) (oi := ?op6q20) (v := .bool true) ?hp6q20 (by kernel_rfl) (by kernel_rfl) (by kernel_rfl) (fun _ _ _ h => h) ?yp6q20 (by assumption) ?rp6q20
          case hp6q20 => (simp only [List.getElem?_toArray, List.getElem?_cons_zero, List.getElem?_cons_succ]; rfl)
          case yp6q20 => exact Or.inl ⟨by rfl, by (intro W hSw; (try dsimp only at hSw); obtain ⟨s0, a0, a1, a2, a3, a4, a5, a6, b0, b1, b2, b3, b4, b5, b6, c0, c1, c2, c3, c4, c5, c6⟩ := hSw; go_simp)⟩
          simp only [Act.put, List.setIfInBounds_toArray, List.set_cons_zero, List.set_cons_succ]
          refine wpAnyH_take (i := 21) (oi := ?op6q21) (v := .pointer (some ⟨w.heap.size, 0, none⟩)) ?hp6q21 (by kernel_rfl) (by kernel_rfl) (by kernel_rfl) (fun _ _ _ h => h) ?yp6q21 (by assumption) ?rp6q21
          case hp6q21 => (simp only [List.getElem?_toArray, List.getElem?_cons_zero, List.getElem?_cons_succ]; rfl)
          case yp6q21 => exact Or.inl ⟨by rfl, by (intro W hSw; (try dsimp only at hSw); obtain ⟨s0, a0, a1, a2, a3, a4, a5, a6, b0, b1, b2, b3, b4, b5, b6, c0, c1, c2, c3, c4, c5, c6⟩ := hSw; go_simp)⟩
          simp only [Act.put, List.setIfInBounds_toArray, List.set_cons_zero, List.set_cons_succ]
          refine wpAnyH_take (i := 22) (oi := ?op6q22) (v := .pointer (some ⟨w.heap.size, 2, none⟩)) ?hp6q22 (by kernel_rfl) (by kernel_rfl) (by kernel_rfl) (fun _ _ _ h => h) ?yp6q22 (by assumption) ?rp6q22
          case hp6q22 => (simp only [List.getElem?_toArray, List.getElem?_cons_zero, List.getElem?_cons_succ]; rfl)
          case yp6q22 => exact Or.inl ⟨by rfl, by (intro W hSw; (try dsimp only at hSw); obtain ⟨s0, a0, a1, a2, a3, a4, a5, a6, b0, b1, b2, b3, b4, b5, b6, c0, c1, c2, c3, c4, c5, c6⟩ := hSw; go_simp)⟩
          simp only [Act.put, List.setIfInBounds_toArray, List.set_cons_zero, List.set_cons_succ]
          refine wpAnyH_take (i := 23) (oi := ?op6q23) (v := .int .u64 a.c.ts) ?hp6q23 (by kernel_rfl) (by kernel_rfl) (by kernel_rfl) (fun _ _ _ h => h) ?yp6q23 (by assumption) ?rp6q23
          case hp6q23 => (simp only [List.getElem?_toArray, List.getElem?_cons_zero, List.getElem?_cons_succ]; rfl)
          case yp6q23 => exact Or.inl ⟨by rfl, by (intro W hSw; (try dsimp only at hSw); obtain ⟨s0, a0, a1, a2, a3, a4, a5, a6, b0, b1, b2, b3, b4, b5, b6, c0, c1, c2, c3, c4, c5, c6⟩ := hSw; go_simp)⟩
          simp only [Act.put, List.setIfInBounds_toArray, List.set_cons_zero, List.set_cons_succ]
          refine wpAnyH_take (i := 24) (oi := ?op6q24) (v := .pointer (some ⟨w.heap.size + 1, 0, none⟩)) ?hp6q24 (by kernel_rfl) (by kernel_rfl) (by kernel_rfl) (fun _ _ _ h => h) ?yp6q24 (by assumption) ?rp6q24
          case hp6q24 => (simp only [List.getElem?_toArray, List.getElem?_cons_zero, List.getElem?_cons_succ]; rfl)
          case yp6q24 => exact Or.inl ⟨by rfl, by (intro W hSw; (try dsimp only at hSw); obtain ⟨s0, a0, a1, a2, a3, a4, a5, a6, b0, b1, b2, b3, b4, b5, b6, c0, c1, c2, c3, c4, c5, c6⟩ := hSw; go_simp)⟩
          simp only [Act.put, List.setIfInBounds_toArray, List.set_cons_zero, List.set_cons_succ]
          refine wpAnyH_take (i := 25) (oi := ?op6q25) (v := .pointer (some ⟨w.heap.size + 1, 2, none⟩)) ?hp6q25 (by kernel_rfl) (by kernel_rfl) (by kernel_rfl) (fun _ _ _ h => h) ?yp6q25 (by assumption) ?rp6q25
          case hp6q25 => (simp only [List.getElem?_toArray, List.getElem?_cons_zero, List.getElem?_cons_succ]; rfl)
          case yp6q25 => exact Or.inl ⟨by rfl, by (intro W hSw; (try dsimp only at hSw); obtain ⟨s0, a0, a1, a2, a3, a4, a5, a6, b0, b1, b2, b3, b4, b5, b6, c0, c1, c2, c3, c4, c5, c6⟩ := hSw; go_simp)⟩
          simp only [Act.put, List.setIfInBounds_toArray, List.set_cons_zero, List.set_cons_succ]
          refine wpAnyH_take (i := 26) (oi := ?op6q26) (v := .int .u64 b.c.ts) ?hp6q26 (by kernel_rfl) (by kernel_rfl) (by kernel_rfl) (fun _ _ _ h => h) ?yp6q26 (by assumption) ?rp6q26
          case hp6q26 => (simp only [List.getElem?_toArray, List.getElem?_cons_zero, List.getElem?_cons_succ]; rfl)
          case yp6q26 => exact Or.inl ⟨by rfl, by (intro W hSw; (try dsimp only at hSw); obtain ⟨s0, a0, a1, a2, a3, a4, a5, a6, b0, b1, b2, b3, b4, b5, b6, c0, c1, c2, c3, c4, c5, c6⟩ := hSw; go_simp)⟩
          simp only [Act.put, List.setIfInBounds_toArray, List.set_cons_zero, List.set_cons_succ]
          refine wpAnyH_take (i := 27) (oi := ?op6q27) (v := .bool false) ?hp6q27 (by kernel_rfl) (by kernel_rfl) (by kernel_rfl) (fun _ _ _ h => h) ?yp6q27 (by assumption) ?rp6q27
          case hp6q27 => (simp only [List.getElem?_toArray, List.getElem?_cons_zero, List.getElem?_cons_succ]; rfl)
          case yp6q27 => exact Or.inl ⟨by rfl, by (intro W hSw; (try dsimp only at hSw); obtain ⟨s0, a0, a1, a2, a3, a4, a5, a6, b0, b1, b2, b3, b4, b5, b6, c0, c1, c2, c3, c4, c5, c6⟩ := hSw; go_simp)⟩
          simp only [Act.put, List.setIfInBounds_toArray, List.set_cons_zero, List.set_cons_succ]
          refine wpAnyH_take (i := 28) (oi := ?op6q28) (v := .bool false) ?hp6q28 (by kernel_rfl) (by kernel_rfl) (by kernel_rfl) (fun _ _ _ h => h) ?yp6q28 (by assumption) ?rp6q28
          case hp6q28 => (simp only [List.getElem?_toArray, List.getElem?_cons_zero, List.getElem?_cons_succ]; rfl)
          case yp6q28 => exact Or.inl ⟨by rfl, by (intro W hSw; (try dsimp only at hSw); obtain ⟨s0, a0, a1, a2, a3, a4, a5, a6, b0, b1, b2, b3, b4, b5, b6, c0, c1, c2, c3, c4, c5, c6⟩ := hSw; go_simp)⟩
          simp only [Act.put, List.setIfInBounds_toArray, List.set_cons_zero, List.set_cons_succ]
          refine wpAnyH_take (i := 29) (oi := ?op6q29) (v := .bool false) ?hp6q29 (by kernel_rfl) (by kernel_rfl) (by kernel_rfl) (fun _ _ _ h => h) ?yp6q29 (by assumption) ?rp6q29
          case hp6q29 => (simp only [List.getElem?_toArray, List.getElem?_cons_zero, List.getElem?_cons_succ]; rfl)
          case yp6q29 => exact Or.inl ⟨by rfl, by (intro W hSw; (try dsimp only at hSw); obtain ⟨s0, a0, a1, a2, a3, a4, a5, a6, b0, b1, b2, b3, b4, b5, b6, c0, c1, c2, c3, c4, c5, c6⟩ := hSw; go_simp)⟩
          simp only [Act.put, List.setIfInBounds_toArray, List.set_cons_zero, List.set_cons_succ]
          refine wpAnyH_take (i := 30) (oi := ?op6q30) (v := undef) ?hp6q30 (by kernel_rfl) (by kernel_rfl) (by kernel_rfl) (fun _ _ _ h => h) ?yp6q30 (by assumption) ?rp6q30
          case hp6q30 => (simp only [List.getElem?_toArray, List.getElem?_cons_zero, List.getElem?_cons_succ]; rfl)
          case yp6q30 => exact Or.inr ⟨by rfl, rfl⟩
          simp only [Act.put, List.setIfInBounds_toArray, List.set_cons_zero, List.set_cons_succ]
          refine wpAnyH_take (i := 31) (oi := ?op6q31) (v := undef) ?hp6q31 (by kernel_rfl) (by kernel_rfl) (by kernel_rfl) (fun _ _ _ h => h) ?yp6q31 (by assumption) ?rp6q31
          case hp6q31 => (simp only [List.getElem?_toArray, List.getElem?_cons_zero, List.getElem?_cons_succ]; rfl)
          case yp6q31 => exact Or.inr ⟨by rfl, rfl⟩
          simp only [Act.put, List.setIfInBounds_toArray, List.set_cons_zero, List.set_cons_succ]
          refine wpAnyH_take (i := 32) (oi := ?op6q32) (v := undef) ?hp6q32 (by kernel_rfl) (by kernel_rfl) (by kernel_rfl) (fun _ _ _ h => h) ?yp6q32 (by assumption) ?rp6q32
          case hp6q32 => (simp only [List.getElem?_toArray, List.getElem?_cons_zero, List.getElem?_cons_succ]; rfl)
          case yp6q32 => exact Or.inr ⟨by rfl, rfl⟩
          simp only [Act.put, List.setIfInBounds_toArray, List.set_cons_zero, List.set_cons_succ]
          refine wpAnyH_take (i := 33) (oi := ?op6q33) (v := undef) ?hp6q33 (by kernel_rfl) (by kernel_rfl) (by kernel_rfl) (fun _ _ _ h => h) ?yp6q33 (by assumption) ?rp6q33
          case hp6q33 => (simp only [List.getElem?_toArray, List.getElem?_cons_zero, List.getElem?_cons_succ]; rfl)
          case yp6q33 => exact Or.inr ⟨by rfl, rfl⟩
          simp only [Act.put, List.setIfInBounds_toArray, List.set_cons_zero, List.set_cons_succ]
          refine wpAnyH_take (i := 34) (oi := ?op6q34) (v := undef) ?hp6q34 (by kernel_rfl) (by kernel_rfl) (by kernel_rfl) (fun _ _ _ h => h) ?yp6q34 (by assumption) ?rp6q34
          case hp6q34 => (simp only [List.getElem?_toArray, List.getElem?_cons_zero, List.getElem?_cons_succ]; rfl)
          case yp6q34 => exact Or.inr ⟨by rfl, rfl⟩
          simp only [Act.put, List.setIfInBounds_toArray, List.set_cons_zero, List.set_cons_succ]
          refine wpAnyH_take (i := 35) (oi := ?op6q35) (v := .bool false) ?hp6q35 (by kernel_rfl) (by kernel_rfl) (by kernel_rfl) (fun _ _ _ h => h) ?yp6q35 (by assumption) ?rp6q35
          case hp6q35 => (simp only [List.getElem?_toArray, List.getElem?_cons_zero, List.getElem?_cons_succ]; rfl)
          case yp6q35 => exact Or.inl ⟨by rfl, by (intro W hSw; (try dsimp only at hSw); obtain ⟨s0, a0, a1, a2, a3, a4, a5, a6, b0, b1, b2, b3, b4, b5, b6, c0, c1, c2, c3, c4, c5, c6⟩ := hSw; go_simp)⟩
          simp only [Act.put, List.setIfInBounds_toArray, List.set_cons_zero, List.set_cons_succ]
          refine wpAnyH_take (i := 36) (oi := ?op6q36) (v := .bool true) ?hp6q36 (by kernel_rfl) (by kernel_rfl) (by kernel_rfl) (fun _ _ _ h => h) ?yp6q36 (by assumption) ?rp6q36
          case hp6q36 => (simp only [List.getElem?_toArray, List.getElem?_cons_zero, List.getElem?_cons_succ]; rfl)
          case yp6q36 => exact Or.inl ⟨by rfl, by (intro W hSw; (try dsimp only at hSw); obtain ⟨s0, a0, a1, a2, a3, a4, a5, a6, b0, b1, b2, b3, b4, b5, b6, c0, c1, c2, c3, c4, c5, c6⟩ := hSw; go_simp)⟩
          simp only [Act.put, List.setIfInBounds_toArray, List.set_cons_zero, List.set_cons_succ]
          refine wpAnyH_take (i := 37) (oi := ?op6q37) (v := .bool true) ?hp6q37 (by kernel_rfl) (by kernel_rfl) (by kernel_rfl) (fun _ _ _ h => h) ?yp6q37 (by assumption) ?rp6q37
          case hp6q37 => (simp only [List.getElem?_toArray, List.getElem?_cons_zero, List.getElem?_cons_succ]; rfl)
          case yp6q37 => exact Or.inl ⟨by rfl, by (intro W hSw; (try dsimp only at hSw); obtain ⟨s0, a0, a1, a2, a3, a4, a5, a6, b0, b1, b2, b3, b4, b5, b6, c0, c1, c2, c3, c4, c5, c6⟩ := hSw; go_simp)⟩
          simp only [Act.put, List.setIfInBounds_toArray, List.set_cons_zero, List.set_cons_succ]
          refine wpAnyH_done (by kernel_rfl) ?_ _
          refine NoPanic.normal ?_
          have o9 := hHeld1.1.od
          clear hHeld0 hHeld1 ft
          go_wp2
          go_ret
          exact ⟨rfl, o9⟩
    have dt : ((a.c.ts : Int) == (b.c.ts : Int)) = true := by rw [e3]; simp
    by_cases e4 : a.pos = b.pos
    case neg =>
            have dz : (x == 0) = false := by rw [beq_eq_false_iff_ne]; exact fun h => e4 (HZ.out.1 h).2.2.2
            have dp : (a.pos == b.pos) = false := by rw [beq_eq_false_iff_ne]; exact e4
            go_upto_region 5 with (fail)
            refine wp_region_noPanic ?_
            refine wp_region_held_drew (S := fun W => Tri w W a b c ∧ W.cell? ⟨w.heap.size, 0, none⟩ = some (.string (B a.c.row)) ∧ W.cell? ⟨w.heap.size, 1, none⟩ = some (.string (B a.c.col)) ∧ W.cell? ⟨w.heap.size, 2, none⟩ = some (.int .u64 a.c.ts) ∧ W.cell? ⟨w.heap.size, 3, none⟩ = some (.int .u64 a.c.seq) ∧ W.cell? ⟨w.heap.size, 4, none⟩ = some (.bool a.c.del) ∧ W.cell? ⟨w.heap.size, 5, none⟩ = some (.string (B a.c.val)) ∧ W.cell? ⟨w.heap.size, 6, none⟩ = some (.int .i64 a.pos) ∧ W.cell? ⟨w.heap.size + 1, 0, none⟩ = some (.string (B b.c.row)) ∧ W.cell? ⟨w.heap.size + 1, 1, none⟩ = some (.string (B b.c.col)) ∧ W.cell? ⟨w.heap.size + 1, 2, none⟩ = some (.int .u64 b.c.ts) ∧ W.cell? ⟨w.heap.size + 1, 3, none⟩ = some (.int .u64 b.c.seq) ∧ W.cell? ⟨w.heap.size + 1, 4, none⟩ = some (.bool b.c.del) ∧ W.cell? ⟨w.heap.size + 1, 5, none⟩ = some (.string (B b.c.val)) ∧ W.cell? ⟨w.heap.size + 1, 6, none⟩ = some (.int .i64 b.pos) ∧ W.cell? ⟨w.heap.size + 1 + 1, 0, none⟩ = some (.string (B c.c.row)) ∧ W.cell? ⟨w.heap.size + 1 + 1, 1, none⟩ = some (.string (B c.c.col)) ∧ W.cell? ⟨w.heap.size + 1 + 1, 2, none⟩ = some (.int .u64 c.c.ts) ∧ W.cell? ⟨w.heap.size + 1 + 1, 3, none⟩ = some (.int .u64 c.c.seq) ∧ W.cell? ⟨w.heap.size + 1 + 1, 4, none⟩ = some (.bool c.c.del) ∧ W.cell? ⟨w.heap.size + 1 + 1, 5, none⟩ = some (.string (B c.c.val)) ∧ W.cell? ⟨w.heap.size + 1 + 1, 6, none⟩ = some (.int .i64 c.pos)) (by kernel_rfl) (Tri.held (ft.old (Old.re _).dr)) (fun hHeld0 => ?_)
            refine wpAnyH_take (i := 0) (oi := ?op7q0) (v := iv a) ?hp7q0 (by kernel_rfl) (by kernel_rfl) (by kernel_rfl) (fun _ _ _ h => h) ?yp7q0 (by assumption) ?rp7q0
            case hp7q0 => (simp only [List.getElem?_toArray, List.getElem?_cons_zero]; rfl)
            case yp7q0 => exact Or.inl ⟨by rfl, by (intro W hSw; (try dsimp only at hSw); obtain ⟨s0, a0, a1, a2, a3, a4, a5, a6, b0, b1, b2, b3, b4, b5, b6, c0, c1, c2, c3, c4, c5, c6⟩ := hSw; go_simp)⟩
            simp only [Act.put, List.setIfInBounds_toArray, List.set_cons_zero, List.set_cons_succ]
            refine wpAnyH_take (i := 1) (oi := ?op7q1) (v := iv b) ?hp7q1 (by kernel_rfl) (by kernel_rfl) (by kernel_rfl) (fun _ _ _ h => h) ?yp7q1 (by assumption) ?rp7q1
            case hp7q1 => (simp only [List.getElem?_toArray, List.getElem?_cons_zero, List.getElem?_cons_succ]; rfl)
            case yp7q1 => exact Or.inl ⟨by rfl, by (intro W hSw; (try dsimp only at hSw); obtain ⟨s0, a0, a1, a2, a3, a4, a5, a6, b0, b1, b2, b3, b4, b5, b6, c0, c1, c2, c3, c4, c5, c6⟩ := hSw; go_simp)⟩
            simp only [Act.put, List.setIfInBounds_toArray, List.set_cons_zero, List.set_cons_succ]
            refine wpAnyH_take (i := 4) (oi := ?op7q4) (v := .pointer (some ⟨w.heap.size, 0, none⟩)) ?hp7q4 (by kernel_rfl) (by kernel_rfl) (by kernel_rfl) (fun _ _ _ h => h) ?yp7q4 (by assumption) ?rp7q4
            case hp7q4 => (simp only [List.getElem?_toArray, List.getElem?_cons_zero, List.getElem?_cons_succ]; rfl)
            case yp7q4 => exact Or.inl ⟨by rfl, by (intro W hSw; (try dsimp only at hSw); obtain ⟨s0, a0, a1, a2, a3, a4, a5, a6, b0, b1, b2, b3, b4, b5, b6, c0, c1, c2, c3, c4, c5, c6⟩ := hSw; go_simp)⟩
            simp only [Act.put, List.setIfInBounds_toArray, List.set_cons_zero, List.set_cons_succ]
            refine wpAnyH_take (i := 5) (oi := ?op7q5) (v := .pointer (some ⟨w.heap.size, 0, none⟩)) ?hp7q5 (by kernel_rfl) (by kernel_rfl) (by kernel_rfl) (fun _ _ _ h => h) ?yp7q5 (by assumption) ?rp7q5
            case hp7q5 => (simp only [List.getElem?_toArray, List.getElem?_cons_zero, List.getElem?_cons_succ]; rfl)
            case yp7q5 => exact Or.inl ⟨by rfl, by (intro W hSw; (try dsimp only at hSw); obtain ⟨s0, a0, a1, a2, a3, a4, a5, a6, b0, b1, b2, b3, b4, b5, b6, c0, c1, c2, c3, c4, c5, c6⟩ := hSw; go_simp)⟩
            simp only [Act.put, List.setIfInBounds_toArray, List.set_cons_zero, List.set_cons_succ]
            refine wpAnyH_take (i := 6) (oi := ?op7q6) (v := .string (B a.c.row)) ?hp7q6 (by kernel_rfl) (by kernel_rfl) (by kernel_rfl) (fun _ _ _ h => h) ?yp7q6 (by assumption) ?rp7q6
            case hp7q6 => (simp only [List.getElem?_toArray, List.getElem?_cons_zero, List.getElem?_cons_succ]; rfl)
            case yp7q6 => exact Or.inl ⟨by rfl, by (intro W hSw; (try dsimp only at hSw); obtain ⟨s0, a0, a1, a2, a3, a4, a5, a6, b0, b1, b2, b3, b4, b5, b6, c0, c1, c2, c3, c4, c5, c6⟩ := hSw; go_simp)⟩
            simp only [Act.put, List.setIfInBounds_toArray, List.set_cons_zero, List.set_cons_succ]
            refine wpAnyH_take (i := 7) (oi := ?op7q7) (v := .pointer (some ⟨w.heap.size + 1, 0, none⟩)) ?hp7q7 (by kernel_rfl) (by kernel_rfl) (by kernel_rfl) (fun _ _ _ h => h) ?yp7q7 (by assumption) ?rp7q7
            case hp7q7 => (simp only [List.getElem?_toArray, List.getElem?_cons_zero, List.getElem?_cons_succ]; rfl)
            case yp7q7 => exact Or.inl ⟨by rfl, by (intro W hSw; (try dsimp only at hSw); obtain ⟨s0, a0, a1, a2, a3, a4, a5, a6, b0, b1, b2, b3, b4, b5, b6, c0, c1, c2, c3, c4, c5, c6⟩ := hSw; go_simp)⟩
            simp only [Act.put, List.setIfInBounds_toArray, List.set_cons_zero, List.set_cons_succ]
            refine wpAnyH_take (i := 8) (oi := ?op7q8) (v := .pointer (some ⟨w.heap.size + 1, 0, none⟩)) ?hp7q8 (by kernel_rfl) (by kernel_rfl) (by kernel_rfl) (fun _ _ _ h => h) ?yp7q8 (by assumption) ?rp7q8
            case hp7q8 => (simp only [List.getElem?_toArray, List.getElem?_cons_zero, List.getElem?_cons_succ]; rfl)
            case yp7q8 => exact Or.inl ⟨by rfl, by (intro W hSw; (try dsimp only at hSw); obtain ⟨s0, a0, a1, a2, a3, a4, a5, a6, b0, b1, b2, b3, b4, b5, b6, c0, c1, c2, c3, c4, c5, c6⟩ := hSw; go_simp)⟩
            simp only [Act.put, List.setIfInBounds_toArray, List.set_cons_zero, List.set_cons_succ]
            refine wpAnyH_take (i := 9) (oi := ?op7q9) (v := .string (B b.c.row)) ?hp7q9 (by kernel_rfl) (by kernel_rfl) (by kernel_rfl) (fun _ _ _ h => h) ?yp7q9 (by assumption) ?rp7q9
            case hp7q9 => (simp only [List.getElem?_toArray, List.getElem?_cons_zero, List.getElem?_cons_succ]; rfl)
            case yp7q9 => exact Or.inl ⟨by rfl, by (intro W hSw; (try dsimp only at hSw); obtain ⟨s0, a0, a1, a2, a3, a4, a5, a6, b0, b1, b2, b3, b4, b5, b6, c0, c1, c2, c3, c4, c5, c6⟩ := hSw; go_simp)⟩
            simp only [Act.put, List.setIfInBounds_toArray, List.set_cons_zero, List.set_cons_succ]
            refine wpAnyH_take (i := 10) (oi := ?op7q10) (v := .bool true) ?hp7q10 (by kernel_rfl) (by kernel_rfl) (by kernel_rfl) (fun _ _ _ h => h) ?yp7q10 (by assumption) ?rp7q10
            case hp7q10 => (simp only [List.getElem?_toArray, List.getElem?_cons_zero, List.getElem?_cons_succ]; rfl)
            case yp7q10 => exact Or.inl ⟨by rfl, by (intro W hSw; (try dsimp only at hSw); obtain ⟨s0, a0, a1, a2, a3, a4, a5, a6, b0, b1, b2, b3, b4, b5, b6, c0, c1, c2, c3, c4, c5, c6⟩ := hSw; go_simp)⟩
            simp only [Act.put, List.setIfInBounds_toArray, List.set_cons_zero, List.set_cons_succ]
            refine wpAnyH_ready (rs := [2]) (by kernel_rfl) (by simp) ?_
            refine AllReadyH.cons (o := ?op7q2) ?hp7q2 (fun K hK => ?rp7q2) AllReadyH.nil
            case hp7q2 => (simp only [List.getElem?_toArray, List.getElem?_cons_zero, List.getElem?_cons_succ]; rfl)
            go_simp
            refine (HAB.out _).mono ?_
            rintro r wc1 ⟨rfl, kc1⟩
            refine hK.out _ _ (Tri.held (hHeld0.1.old kc1)) (fun hHeld1 => ?_)
            clear hK K
            try simp only [Act.put, List.setIfInBounds_toArray, List.set_cons_zero, List.set_cons_succ]
            refine wpAnyH_take (i := 3) (oi := ?op7q3) (v := .bool false) ?hp7q3 (by kernel_rfl) (by kernel_rfl) (by kernel_rfl) (fun _ _ _ h => h) ?yp7q3 (by assumption) ?rp7q3
            case hp7q3 => (simp only [List.getElem?_toArray, List.getElem?_cons_zero, List.getElem?_cons_succ]; rfl)
            case yp7q3 => exact Or.inl ⟨by rfl, by (intro W hSw; (try dsimp only at hSw); obtain ⟨s0, a0, a1, a2, a3, a4, a5, a6, b0, b1, b2, b3, b4, b5, b6, c0, c1, c2, c3, c4, c5, c6⟩ := hSw; go_simp)⟩
            simp only [Act.put, List.setIfInBounds_toArray, List.set_cons_zero, List.set_cons_succ]
            refine wpAnyH_take (i := 11) (oi := ?op7q11) (v := .bool true) ?hp7q11 (by kernel_rfl) (by kernel_rfl) (by kernel_rfl) (fun _ _ _ h => h) ?yp7q11 (by assumption) ?rp7q11
            case hp7q11 => (simp only [List.getElem?_toArray, List.getElem?_cons_zero, List.getElem?_cons_succ]; rfl)
            case yp7q11 => exact Or.inl ⟨by rfl, by (intro W hSw; (try dsimp only at hSw); obtain ⟨s0, a0, a1, a2, a3, a4, a5, a6, b0, b1, b2, b3, b4, b5, b6, c0, c1, c2, c3, c4, c5, c6⟩ := hSw; go_simp)⟩
            simp only [Act.put, List.setIfInBounds_toArray, List.set_cons_zero, List.set_cons_succ]
            refine wpAnyH_take (i := 12) (oi := ?op7q12) (v := .pointer (some ⟨w.heap.size, 0, none⟩)) ?hp7q12 (by kernel_rfl) (by kernel_rfl) (by kernel_rfl) (fun _ _ _ h => h) ?yp7q12 (by assumption) ?rp7q12
            case hp7q12 => (simp only [List.getElem?_toArray, List.getElem?_cons_zero, List.getElem?_cons_succ]; rfl)
            case yp7q12 => exact Or.inl ⟨by rfl, by (intro W hSw; (try dsimp only at hSw); obtain ⟨s0, a0, a1, a2, a3, a4, a5, a6, b0, b1, b2, b3, b4, b5, b6, c0, c1, c2, c3, c4, c5, c6⟩ := hSw; go_simp)⟩
            simp only [Act.put, List.setIfInBounds_toArray, List.set_cons_zero, List.set_cons_succ]
            refine wpAnyH_take (i := 13) (oi := ?op7q13) (v := .pointer (some ⟨w.heap.size, 1, none⟩)) ?hp7q13 (by kernel_rfl) (by kernel_rfl) (by kernel_rfl) (fun _ _ _ h => h) ?yp7q13 (by assumption) ?rp7q13
            case hp7q13 => (simp only [List.getElem?_toArray, List.getElem?_cons_zero, List.getElem?_cons_succ]; rfl)
            case yp7q13 => exact Or.inl ⟨by rfl, by (intro W hSw; (try dsimp only at hSw); obtain ⟨s0, a0, a1, a2, a3, a4, a5, a6, b0, b1, b2, b3, b4, b5, b6, c0, c1, c2, c3, c4, c5, c6⟩ := hSw; go_simp)⟩
            simp only [Act.put, List.setIfInBounds_toArray, List.set_cons_zero, List.set_cons_succ]
            refine wpAnyH_take (i := 14) (oi := ?op7q14) (v := .string (B a.c.col)) ?hp7q14 (by kernel_rfl) (by kernel_rfl) (by kernel_rfl) (fun _ _ _ h => h) ?yp7q14 (by assumption) ?rp7q14
            case hp7q14 => (simp only [List.getElem?_toArray, List.getElem?_cons_zero, List.getElem?_cons_succ]; rfl)
            case yp7q14 => exact Or.inl ⟨by rfl, by (intro W hSw; (try dsimp only at hSw); obtain ⟨s0, a0, a1, a2, a3, a4, a5, a6, b0, b1, b2, b3, b4, b5, b6, c0, c1, c2, c3, c4, c5, c6⟩ := hSw; go_simp)⟩
            simp only [Act.put, List.setIfInBounds_toArray, List.set_cons_zero, List.set_cons_succ]
            refine wpAnyH_take (i := 15) (oi := ?op7q15) (v := .pointer (some ⟨w.heap.size + 1, 0, none⟩)) ?hp7q15 (by kernel_rfl) (by kernel_rfl) (by kernel_rfl) (fun _ _ _ h => h) ?yp7q15 (by assumption) ?rp7q15
            case hp7q15 => (simp only [List.getElem?_toArray, List.getElem?_cons_zero, List.getElem?_cons_succ]; rfl)
            case yp7q15 => exact Or.inl ⟨by rfl, by (intro W hSw; (try dsimp only at hSw); obtain ⟨s0, a0, a1, a2, a3, a4, a5, a6, b0, b1, b2, b3, b4, b5, b6, c0, c1, c2, c3, c4, c5, c6⟩ := hSw; go_simp)⟩
            simp only [Act.put, List.setIfInBounds_toArray, List.set_cons_zero, List.set_cons_succ]
            refine wpAnyH_take (i := 16) (oi := ?op7q16) (v := .pointer (some ⟨w.heap.size + 1, 1, none⟩)) ?hp7q16 (by kernel_rfl) (by kernel_rfl) (by kernel_rfl) (fun _ _ _ h => h) ?yp7q16 (by assumption) ?rp7q16
            case hp7q16 => (simp only [List.getElem?_toArray, List.getElem?_cons_zero, List.getElem?_cons_succ]; rfl)
            case yp7q16 => exact Or.inl ⟨by rfl, by (intro W hSw; (try dsimp only at hSw); obtain ⟨s0, a0, a1, a2, a3, a4, a5, a6, b0, b1, b2, b3, b4, b5, b6, c0, c1, c2, c3, c4, c5, c6⟩ := hSw; go_simp)⟩
            simp only [Act.put, List.setIfInBounds_toArray, List.set_cons_zero, List.set_cons_succ]
            refine wpAnyH_take (i := 17) (oi := ?op7q17) (v := .string (B b.c.col)) ?hp7q17 (by kernel_rfl) (by kernel_rfl) (by kernel_rfl) (fun _ _ _ h => h) ?yp7q17 (by assumption) ?rp7q17
            case hp7q17 => (simp only [List.getElem?_toArray, List.getElem?_cons_zero, List.getElem?_cons_succ]; rfl)
            case yp7q17 => exact Or.inl ⟨by rfl, by (intro W hSw; (try dsimp only at hSw); obtain ⟨s0, a0, a1, a2, a3, a4, a5, a6, b0, b1, b2, b3, b4, b5, b6, c0, c1, c2, c3, c4, c5, c6⟩ := hSw; go_simp)⟩
            simp only [Act.put, List.setIfInBounds_toArray, List.set_cons_zero, List.set_cons_succ]
            refine wpAnyH_take (i := 18) (oi := ?op7q18) (v := .bool true) ?hp7q18 (by kernel_rfl) (by kernel_rfl) (by kernel_rfl) (fun _ _ _ h => h) ?yp7q18 (by assumption) ?rp7q18
            case hp7q18 => (simp only [List.getElem?_toArray, List.getElem?_cons_zero, List.getElem?_cons_succ]; rfl)
            case yp7q18 => exact Or.inl ⟨by rfl, by (intro W hSw; (try dsimp only at hSw); obtain ⟨s0, a0, a1, a2, a3, a4, a5, a6, b0, b1, b2, b3, b4, b5, b6, c0, c1, c2, c3, c4, c5, c6⟩ := hSw; go_simp)⟩
            simp only [Act.put, List.setIfInBounds_toArray, List.set_cons_zero, List.set_cons_succ]
            refine wpAnyH_take (i := 19) (oi := ?op7q19) (v := .bool true) ?hp7q19 (by kernel_rfl) (by kernel_rfl) (by kernel_rfl) (fun _ _ _ h => h) ?yp7q19 (by assumption) ?rp7q19
            case hp7q19 => (simp only [List.getElem?_toArray, List.getElem?_cons_zero, List.getElem?_cons_succ]; rfl)
            case yp7q19 => exact Or.inl ⟨by rfl, by (intro W hSw; (try dsimp only at hSw); obtain ⟨s0, a0, a1, a2, a3, a4, a5, a6, b0, b1, b2, b3, b4, b5, b6, c0, c1, c2, c3, c4, c5, c6⟩ := hSw; go_simp)⟩
            simp only [Act.put, List.setIfInBounds_toArray, List.set_cons_zero, List.set_cons_succ]
            refine wpAnyH_take (i := 20) (oi := ?op7q20) (v := .bool true) ?hp7q20 (by kernel_rfl) (by kernel_rfl) (by kernel_rfl) (fun _ _ _ h => h) ?yp7q20 (by assumption) ?rp7q20
            case hp7q20 => (simp only [List.getElem?_toArray, List.getElem?_cons_zero, List.getElem?_cons_succ]; rfl)
            case yp7q20 => exact Or.inl ⟨by rfl, by (intro W hSw; (try dsimp only at hSw); obtain ⟨s0, a0, a1, a2, a3, a4, a5, a6, b0, b1, b2, b3, b4, b5, b6, c0, c1, c2, c3, c4, c5, c6⟩ := hSw; go_simp)⟩
            simp only [Act.put, List.setIfInBounds_toArray, List.set_cons_zero, List.set_cons_succ]
            refine wpAnyH_take (i := 21) (oi := ?op7q21) (v := .pointer (some ⟨w.heap.size, 0, none⟩)) ?hp7q21 (by kernel_rfl) (by kernel_rfl) (by kernel_rfl) (fun _ _ _ h => h) ?yp7q21 (by assumption) ?rp7q21
            case hp7q21 => (simp only [List.getElem?_toArray, List.getElem?_cons_zero, List.getElem?_cons_succ]; rfl)
            case yp7q21 => exact Or.inl ⟨by rfl, by (intro W hSw; (try dsimp only at hSw); obtain ⟨s0, a0, a1, a2, a3, a4, a5, a6, b0, b1, b2, b3, b4, b5, b6, c0, c1, c2, c3, c4, c5, c6⟩ := hSw; go_simp)⟩
            simp only [Act.put, List.setIfInBounds_toArray, List.set_cons_zero, List.set_cons_succ]
            refine wpAnyH_take (i := 22) (oi := ?op7q22) (v := .pointer (some ⟨w.heap.size, 2, none⟩)) ?hp7q22 (by kernel_rfl) (by kernel_rfl) (by kernel_rfl) (fun _ _ _ h => h) ?yp7q22 (by assumption) ?rp7q22
            case hp7q22 => (simp only [List.getElem?_toArray, List.getElem?_cons_zero, List.getElem?_cons_succ]; rfl)
            case yp7q22 => exact Or.inl ⟨by rfl, by (intro W hSw; (try dsimp only at hSw); obtain ⟨s0, a0, a1, a2, a3, a4, a5, a6, b0, b1, b2, b3, b4, b5, b6, c0, c1, c2, c3, c4, c5, c6⟩ := hSw; go_simp)⟩
            simp only [Act.put, List.setIfInBounds_toArray, List.set_cons_zero, List.set_cons_succ]
            refine wpAnyH_take (i := 23) (oi := ?op7q23) (v := .int .u64 a.c.ts) ?hp7q23 (by kernel_rfl) (by kernel_rfl) (by kernel_rfl) (fun _ _ _ h => h) ?yp7q23 (by assumption) ?rp7q23
            case hp7q23 => (simp only [List.getElem?_toArray, List.getElem?_cons_zero, List.getElem?_cons_succ]; rfl)
            case yp7q23 => exact Or.inl ⟨by rfl, by (intro W hSw; (try dsimp only at hSw); obtain ⟨s0, a0, a1, a2, a3, a4, a5, a6, b0, b1, b2, b3, b4, b5, b6, c0, c1, c2, c3, c4, c5, c6⟩ := hSw; go_simp)⟩
            simp only [Act.put, List.setIfInBounds_toArray, List.set_cons_zero, List.set_cons_succ]
            refine wpAnyH_take (i := 24) (oi := ?op7q24) (v := .pointer (some ⟨w.heap.size + 1, 0, none⟩)) ?hp7q24 (by kernel_rfl) (by kernel_rfl) (by kernel_rfl) (fun _ _ _ h => h) ?yp7q24 (by assumption) ?rp7q24
            case hp7q24 => (simp only [List.getElem?_toArray, List.getElem?_cons_zero, List.getElem?_cons_succ]; rfl)
            case yp7q24 => exact Or.inl ⟨by rfl, by (intro W hSw; (try dsimp only at hSw); obtain ⟨s0, a0, a1, a2, a3, a4, a5, a6, b0, b1, b2, b3, b4, b5, b6, c0, c1, c2, c3, c4, c5, c6⟩ := hSw; go_simp)⟩
            simp only [Act.put, List.setIfInBounds_toArray, List.set_cons_zero, List.set_cons_succ]
            refine wpAnyH_take (i := 25) (oi := ?op7q25) (v := .pointer (some ⟨w.heap.size + 1, 2, none⟩)) ?hp7q25 (by kernel_rfl) (by kernel_rfl) (by kernel_rfl) (fun _ _ _ h => h) ?yp7q25 (by assumption) ?rp7q25
            case hp7q25 => (simp only [List.getElem?_toArray, List.getElem?_cons_zero, List.getElem?_cons_succ]; rfl)
            case yp7q25 => exact Or.inl ⟨by rfl, by (intro W hSw; (try dsimp only at hSw); obtain ⟨s0, a0, a1, a2, a3, a4, a5, a6, b0, b1, b2, b3, b4, b5, b6, c0, c1, c2, c3, c4, c5, c6⟩ := hSw; go_simp)⟩
            simp only [Act.put, List.setIfInBounds_toArray, List.set_cons_zero, List.set_cons_succ]
            refine wpAnyH_take (i := 26) (oi := ?op7q26) (v := .int .u64 b.c.ts) ?hp7q26 (by kernel_rfl) (by kernel_rfl) (by kernel_rfl) (fun _ _ _ h => h) ?yp7q26 (by assumption) ?rp7q26
            case hp7q26 => (simp only [List.getElem?_toArray, List.getElem?_cons_zero, List.getElem?_cons_succ]; rfl)
            case yp7q26 => exact Or.inl ⟨by rfl, by (intro W hSw; (try dsimp only at hSw); obtain ⟨s0, a0, a1, a2, a3, a4, a5, a6, b0, b1, b2, b3, b4, b5, b6, c0, c1, c2, c3, c4, c5, c6⟩ := hSw; go_simp)⟩
            simp only [Act.put, List.setIfInBounds_toArray, List.set_cons_zero, List.set_cons_succ]
            refine wpAnyH_take (i := 27) (oi := ?op7q27) (v := .bool true) ?hp7q27 (by kernel_rfl) (by kernel_rfl) (by kernel_rfl) (fun _ _ _ h => h) ?yp7q27 (by assumption) ?rp7q27
            case hp7q27 => (simp only [List.getElem?_toArray, List.getElem?_cons_zero, List.getElem?_cons_succ]; rfl)
            case yp7q27 => exact Or.inl ⟨by rfl, by (intro W hSw; (try dsimp only at hSw); obtain ⟨s0, a0, a1, a2, a3, a4, a5, a6, b0, b1, b2, b3, b4, b5, b6, c0, c1, c2, c3, c4, c5, c6⟩ := hSw; go_simp)⟩
            simp only [Act.put, List.setIfInBounds_toArray, List.set_cons_zero, List.set_cons_succ]
            refine wpAnyH_take (i := 28) (oi := ?op7q28) (v := .bool true) ?hp7q28 (by kernel_rfl) (by kernel_rfl) (by kernel_rfl) (fun _ _ _ h => h) ?yp7q28 (by assumption) ?rp7q28
            case hp7q28 => (simp only [List.getElem?_toArray, List.getElem?_cons_zero, List.getElem?_cons_succ]; rfl)
            case yp7q28 => exact Or.inl ⟨by rfl, by (intro W hSw; (try dsimp only at hSw); obtain ⟨s0, a0, a1, a2, a3, a4, a5, a6, b0, b1, b2, b3, b4, b5, b6, c0, c1, c2, c3, c4, c5, c6⟩ := hSw; go_simp)⟩
            simp only [Act.put, List.setIfInBounds_toArray, List.set_cons_zero, List.set_cons_succ]
            refine wpAnyH_take (i := 29) (oi := ?op7q29) (v := .bool true) ?hp7q29 (by kernel_rfl) (by kernel_rfl) (by kernel_rfl) (fun _ _ _ h => h) ?yp7q29 (by assumption) ?rp7q29
            case hp7q29 => (simp only [List.getElem?_toArray, List.getElem?_cons_zero, List.getElem?_cons_succ]; rfl)
            case yp7q29 => exact Or.inl ⟨by rfl, by (intro W hSw; (try dsimp only at hSw); obtain ⟨s0, a0, a1, a2, a3, a4, a5, a6, b0, b1, b2, b3, b4, b5, b6, c0, c1, c2, c3, c4, c5, c6⟩ := hSw; go_simp)⟩
            simp only [Act.put, List.setIfInBounds_toArray, List.set_cons_zero, List.set_cons_succ]
            refine wpAnyH_take (i := 30) (oi := ?op7q30) (v := .pointer (some ⟨w.heap.size, 6, none⟩)) ?hp7q30 (by kernel_rfl) (by kernel_rfl) (by kernel_rfl) (fun _ _ _ h => h) ?yp7q30 (by assumption) ?rp7q30
            case hp7q30 => (simp only [List.getElem?_toArray, List.getElem?_cons_zero, List.getElem?_cons_succ]; rfl)
            case yp7q30 => exact Or.inl ⟨by rfl, by (intro W hSw; (try dsimp only at hSw); obtain ⟨s0, a0, a1, a2, a3, a4, a5, a6, b0, b1, b2, b3, b4, b5, b6, c0, c1, c2, c3, c4, c5, c6⟩ := hSw; go_simp)⟩
            simp only [Act.put, List.setIfInBounds_toArray, List.set_cons_zero, List.set_cons_succ]
            refine wpAnyH_take (i := 31) (oi := ?op7q31) (v := .int .i64 a.pos) ?hp7q31 (by kernel_rfl) (by kernel_rfl) (by kernel_rfl) (fun _ _ _ h => h) ?yp7q31 (by assumption) ?rp7q31
            case hp7q31 => (simp only [List.getElem?_toArray, List.getElem?_cons_zero, List.getElem?_cons_succ]; rfl)
            case yp7q31 => exact Or.inl ⟨by rfl, by (intro W hSw; (try dsimp only at hSw); obtain ⟨s0, a0, a1, a2, a3, a4, a5, a6, b0, b1, b2, b3, b4, b5, b6, c0, c1, c2, c3, c4, c5, c6⟩ := hSw; go_simp)⟩
            simp only [Act.put, List.setIfInBounds_toArray, List.set_cons_zero, List.set_cons_succ]
            refine wpAnyH_take (i := 32) (oi := ?op7q32) (v := .pointer (some ⟨w.heap.size + 1, 6, none⟩)) ?hp7q32 (by kernel_rfl) (by kernel_rfl) (by kernel_rfl) (fun _ _ _ h => h) ?yp7q32 (by assumption) ?rp7q32
            case hp7q32 => (simp only [List.getElem?_toArray, List.getElem?_cons_zero, List.getElem?_cons_succ]; rfl)
            case yp7q32 => exact Or.inl ⟨by rfl, by (intro W hSw; (try dsimp only at hSw); obtain ⟨s0, a0, a1, a2, a3, a4, a5, a6, b0, b1, b2, b3, b4, b5, b6, c0, c1, c2, c3, c4, c5, c6⟩ := hSw; go_simp)⟩
            simp only [Act.put, List.setIfInBounds_toArray, List.set_cons_zero, List.set_cons_succ]
            refine wpAnyH_take (i := 33) (oi := ?op7q33) (v := .int .i64 b.pos) ?hp7q33 (by kernel_rfl) (by kernel_rfl) (by kernel_rfl) (fun _ _ _ h => h) ?yp7q33 (by assumption) ?rp7q33
            case hp7q33 => (simp only [List.getElem?_toArray, List.getElem?_cons_zero, List.getElem?_cons_succ]; rfl)
            case yp7q33 => exact Or.inl ⟨by rfl, by (intro W hSw; (try dsimp only at hSw); obtain ⟨s0, a0, a1, a2, a3, a4, a5, a6, b0, b1, b2, b3, b4, b5, b6, c0, c1, c2, c3, c4, c5, c6⟩ := hSw; go_simp)⟩
            simp only [Act.put, List.setIfInBounds_toArray, List.set_cons_zero, List.set_cons_succ]
            refine wpAnyH_take (i := 34) (oi := ?op7q34) (v := .bool false) ?hp7q34 (by kernel_rfl) (by kernel_rfl) (by kernel_rfl) (fun _ _ _ h => h) ?yp7q34 (by assumption) ?rp7q34
            case hp7q34 => (simp only [List.getElem?_toArray, List.getElem?_cons_zero, List.getElem?_cons_succ]; rfl)
            case yp7q34 => exact Or.inl ⟨by rfl, by (intro W hSw; (try dsimp only at hSw); obtain ⟨s0, a0, a1, a2, a3, a4, a5, a6, b0, b1, b2, b3, b4, b5, b6, c0, c1, c2, c3, c4, c5, c6⟩ := hSw; go_simp)⟩
            simp only [Act.put, List.setIfInBounds_toArray, List.set_cons_zero, List.set_cons_succ]
            refine wpAnyH_take (i := 35) (oi := ?op7q35) (v := .bool false) ?hp7q35 (by kernel_rfl) (by kernel_rfl) (by kernel_rfl) (fun _ _ _ h => h) ?yp7q35 (by assumption) ?rp7q35
            case hp7q35 => (simp only [List.getElem?_toArray, List.getElem?_cons_zero, List.getElem?_cons_succ]; rfl)
            case yp7q35 => exact Or.inl ⟨by rfl, by (intro W hSw; (try dsimp only at hSw); obtain ⟨s0, a0, a1, a2, a3, a4, a5, a6, b0, b1, b2, b3, b4, b5, b6, c0, c1, c2, c3, c4, c5, c6⟩ := hSw; go_simp)⟩
            simp only [Act.put, List.setIfInBounds_toArray, List.set_cons_zero, List.set_cons_succ]
            refine wpAnyH_take (i := 36) (oi := ?op7q36) (v := .bool true) ?hp7q36 (by kernel_rfl) (by kernel_rfl) (by kernel_rfl) (fun _ _ _ h => h) ?yp7q36 (by assumption) ?rp7q36
            case hp7q36 => (simp only [List.getElem?_toArray, List.getElem?_cons_zero, List.getElem?_cons_succ]; rfl)
            case yp7q36 => exact Or.inl ⟨by rfl, by (intro W hSw; (try dsimp only at hSw); obtain ⟨s0, a0, a1, a2, a3, a4, a5, a6, b0, b1, b2, b3, b4, b5, b6, c0, c1, c2, c3, c4, c5, c6⟩ := hSw; go_simp)⟩
            simp only [Act.put, List.setIfInBounds_toArray, List.set_cons_zero, List.set_cons_succ]
            refine wpAnyH_take (i := 37) (oi := ?op7q37) (v := .bool true) ?hp7q37 (by kernel_rfl) (by kernel_rfl) (by kernel_rfl) (fun _ _ _ h => h) ?yp7q37 (by assumption) ?rp7q37
            case hp7q37 => (simp only [List.getElem?_toArray, List.getElem?_cons_zero, List.getElem?_cons_succ]; rfl)
            case yp7q37 => exact Or.inl ⟨by rfl, by (intro W hSw; (try dsimp only at hSw); obtain ⟨s0, a0, a1, a2, a3, a4, a5, a6, b0, b1, b2, b3, b4, b5, b6, c0, c1, c2, c3, c4, c5, c6⟩ := hSw; go_simp)⟩
            simp only [Act.put, List.setIfInBounds_toArray, List.set_cons_zero, List.set_cons_succ]
            refine wpAnyH_done (by kernel_rfl) ?_ _
            refine NoPanic.normal ?_
            have o9 := hHeld1.1.od
            clear hHeld0 hHeld1 ft
            go_wp2
            go_ret
            exact ⟨rfl, o9⟩
    case pos =>
            have dz : (x == 0) = true := by rw [beq_iff_eq]; exact HZ.out.2 ⟨e1, e2, e3, e4⟩
            have dp : (a.pos == b.pos) = true := by rw [e4]; simp
            go_upto_region 5 with (fail)
            refine wp_region_noPanic ?_
            refine wp_region_held_drew (S := fun W => Tri w W a b c ∧ W.cell? ⟨w.heap.size, 0, none⟩ = some (.string (B a.c.row)) ∧ W.cell? ⟨w.heap.size, 1, none⟩ = some (.string (B a.c.col)) ∧ W.cell? ⟨w.heap.size, 2, none⟩ = some (.int .u64 a.c.ts) ∧ W.cell? ⟨w.heap.size, 3, none⟩ = some (.int .u64 a.c.seq) ∧ W.cell? ⟨w.heap.size, 4, none⟩ = some (.bool a.c.del) ∧ W.cell? ⟨w.heap.size, 5, none⟩ = some (.string (B a.c.val)) ∧ W.cell? ⟨w.heap.size, 6, none⟩ = some (.int .i64 a.pos) ∧ W.cell? ⟨w.heap.size + 1, 0, none⟩ = some (.string (B b.c.row)) ∧ W.cell? ⟨w.heap.size + 1, 1, none⟩ = some (.string (B b.c.col)) ∧ W.cell? ⟨w.heap.size + 1, 2, none⟩ = some (.int .u64 b.c.ts) ∧ W.cell? ⟨w.heap.size + 1, 3, none⟩ = some (.int .u64 b.c.seq) ∧ W.cell? ⟨w.heap.size + 1, 4, none⟩ = some (.bool b.c.del) ∧ W.cell? ⟨w.heap.size + 1, 5, none⟩ = some (.string (B b.c.val)) ∧ W.cell? ⟨w.heap.size + 1, 6, none⟩ = some (.int .i64 b.pos) ∧ W.cell? ⟨w.heap.size + 1 + 1, 0, none⟩ = some (.string (B c.c.row)) ∧ W.cell? ⟨w.heap.size + 1 + 1, 1, none⟩ = some (.string (B c.c.col)) ∧ W.cell? ⟨w.heap.size + 1 + 1, 2, none⟩ = some (.int .u64 c.c.ts) ∧ W.cell? ⟨w.heap.size + 1 + 1, 3, none⟩ = some (.int .u64 c.c.seq) ∧ W.cell? ⟨w.heap.size + 1 + 1, 4, none⟩ = some (.bool c.c.del) ∧ W.cell? ⟨w.heap.size + 1 + 1, 5, none⟩ = some (.string (B c.c.val)) ∧ W.cell? ⟨w.heap.size + 1 + 1, 6, none⟩ = some (.int .i64 c.pos)) (by kernel_rfl) (Tri.held (ft.old (Old.re _).dr)) (fun hHeld0 => ?_)
            refine wpAnyH_take (i := 0) (oi := ?op8q0) (v := iv a) ?hp8q0 (by kernel_rfl) (by kernel_rfl) (by kernel_rfl) (fun _ _ _ h => h) ?yp8q0 (by assumption) ?rp8q0
            case hp8q0 => (simp only [List.getElem?_toArray, List.getElem?_cons_zero]; rfl)
            case yp8q0 => exact Or.inl ⟨by rfl, by (intro W hSw; (try dsimp only at hSw); obtain ⟨s0, a0, a1, a2, a3, a4, a5, a6, b0, b1, b2, b3, b4, b5, b6, c0, c1, c2, c3, c4, c5, c6⟩ := hSw; go_simp)⟩
            simp only [Act.put, List.setIfInBounds_toArray, List.set_cons_zero, List.set_cons_succ]
            refine wpAnyH_take (i := 1) (oi := ?op8q1) (v := iv b) ?hp8q1 (by kernel_rfl) (by kernel_rfl) (by kernel_rfl) (fun _ _ _ h => h) ?yp8q1 (by assumption) ?rp8q1
            case hp8q1 => (simp only [List.getElem?_toArray, List.getElem?_cons_zero, List.getElem?_cons_succ]; rfl)
            case yp8q1 => exact Or.inl ⟨by rfl, by (intro W hSw; (try dsimp only at hSw); obtain ⟨s0, a0, a1, a2, a3, a4, a5, a6, b0, b1, b2, b3, b4, b5, b6, c0, c1, c2, c3, c4, c5, c6⟩ := hSw; go_simp)⟩
            simp only [Act.put, List.setIfInBounds_toArray, List.set_cons_zero, List.set_cons_succ]
            refine wpAnyH_take (i := 4) (oi := ?op8q4) (v := .pointer (some ⟨w.heap.size, 0, none⟩)) ?hp8q4 (by kernel_rfl) (by kernel_rfl) (by kernel_rfl) (fun _ _ _ h => h) ?yp8q4 (by assumption) ?rp8q4
            case hp8q4 => (simp only [List.getElem?_toArray, List.getElem?_cons_zero, List.getElem?_cons_succ]; rfl)
            case yp8q4 => exact Or.inl ⟨by rfl, by (intro W hSw; (try dsimp only at hSw); obtain ⟨s0, a0, a1, a2, a3, a4, a5, a6, b0, b1, b2, b3, b4, b5, b6, c0, c1, c2, c3, c4, c5, c6⟩ := hSw; go_simp)⟩
            simp only [Act.put, List.setIfInBounds_toArray, List.set_cons_zero, List.set_cons_succ]
            refine wpAnyH_take (i := 5) (oi := ?op8q5) (v := .pointer (some ⟨w.heap.size, 0, none⟩)) ?hp8q5 (by kernel_rfl) (by kernel_rfl) (by kernel_rfl) (fun _ _ _ h => h) ?yp8q5 (by assumption) ?rp8q5
            case hp8q5 => (simp only [List.getElem?_toArray, List.getElem?_cons_zero, List.getElem?_cons_succ]; rfl)
            case yp8q5 => exact Or.inl ⟨by rfl, by (intro W hSw; (try dsimp only at hSw); obtain ⟨s0, a0, a1, a2, a3, a4, a5, a6, b0, b1, b2, b3, b4, b5, b6, c0, c1, c2, c3, c4, c5, c6⟩ := hSw; go_simp)⟩
            simp only [Act.put, List.setIfInBounds_toArray, List.set_cons_zero, List.set_cons_succ]
            refine wpAnyH_take (i := 6) (oi := ?op8q6) (v := .string (B a.c.row)) ?hp8q6 (by kernel_rfl) (by kernel_rfl) (by kernel_rfl) (fun _ _ _ h => h) ?yp8q6 (by assumption) ?rp8q6
            case hp8q6 => (simp only [List.getElem?_toArray, List.getElem?_cons_zero, List.getElem?_cons_succ]; rfl)
            case yp8q6 => exact Or.inl ⟨by rfl, by (intro W hSw; (try dsimp only at hSw); obtain ⟨s0, a0, a1, a2, a3, a4, a5, a6, b0, b1, b2, b3, b4, b5, b6, c0, c1, c2, c3, c4, c5, c6⟩ := hSw; go_simp)⟩
            simp only [Act.put, List.setIfInBounds_toArray, List.set_cons_zero, List.set_cons_succ]
            refine wpAnyH_take (i := 7) (oi := ?op8q7) (v := .pointer (some ⟨w.heap.size + 1, 0, none⟩)) ?hp8q7 (by kernel_rfl) (by kernel_rfl) (by kernel_rfl) (fun _ _ _ h => h) ?yp8q7 (by assumption) ?rp8q7
            case hp8q7 => (simp only [List.getElem?_toArray, List.getElem?_cons_zero, List.getElem?_cons_succ]; rfl)
            case yp8q7 => exact Or.inl ⟨by rfl, by (intro W hSw; (try dsimp only at hSw); obtain ⟨s0, a0, a1, a2, a3, a4, a5, a6, b0, b1, b2, b3, b4, b5, b6, c0, c1, c2, c3, c4, c5, c6⟩ := hSw; go_simp)⟩
            simp only [Act.put, List.setIfInBounds_toArray, List.set_cons_zero, List.set_cons_succ]
            refine wpAnyH_take (i := 8) (oi := ?op8q8) (v := .pointer (some ⟨w.heap.size + 1, 0, none⟩)) ?hp8q8 (by kernel_rfl) (by kernel_rfl) (by kernel_rfl) (fun _ _ _ h => h) ?yp8q8 (by assumption) ?rp8q8
            case hp8q8 => (simp only [List.getElem?_toArray, List.getElem?_cons_zero, List.getElem?_cons_succ]; rfl)
            case yp8q8 => exact Or.inl ⟨by rfl, by (intro W hSw; (try dsimp only at hSw); obtain ⟨s0, a0, a1, a2, a3, a4, a5, a6, b0, b1, b2, b3, b4, b5, b6, c0, c1, c2, c3, c4, c5, c6⟩ := hSw; go_simp)⟩
            simp only [Act.put, List.setIfInBounds_toArray, List.set_cons_zero, List.set_cons_succ]
            refine wpAnyH_take (i := 9) (oi := ?op8q9) (v := .string (B b.c.row)) ?hp8q9 (by kernel_rfl) (by kernel_rfl) (by kernel_rfl) (fun _ _ _ h => h) ?yp8q9 (by assumption) ?rp8q9
            case hp8q9 => (simp only [List.getElem?_toArray, List.getElem?_cons_zero, List.getElem?_cons_succ]; rfl)
            case yp8q9 => exact Or.inl ⟨by rfl, by (intro W hSw; (try dsimp only at hSw); obtain ⟨s0, a0, a1, a2, a3, a4, a5, a6, b0, b1, b2, b3, b4, b5, b6, c0, c1, c2, c3, c4, c5, c6⟩ := hSw; go_simp)⟩
            simp only [Act.put, List.setIfInBounds_toArray, List.set_cons_zero, List.set_cons_succ]
            refine wpAnyH_take (i := 10) (oi := ?op8q10) (v := .bool true) ?hp8q10 (by kernel_rfl) (by kernel_rfl) (by kernel_rfl) (fun _ _ _ h => h) ?yp8q10 (by assumption) ?rp8q10
            case hp8q10 => (simp only [List.getElem?_toArray, List.getElem?_cons_zero, List.getElem?_cons_succ]; rfl)
            case yp8q10 => exact Or.inl ⟨by rfl, by (intro W hSw; (try dsimp only at hSw); obtain ⟨s0, a0, a1, a2, a3, a4, a5, a6, b0, b1, b2, b3, b4, b5, b6, c0, c1, c2, c3, c4, c5, c6⟩ := hSw; go_simp)⟩
            simp only [Act.put, List.setIfInBounds_toArray, List.set_cons_zero, List.set_cons_succ]
            refine wpAnyH_ready (rs := [2]) (by kernel_rfl) (by simp) ?_
            refine AllReadyH.cons (o := ?op8q2) ?hp8q2 (fun K hK => ?rp8q2) AllReadyH.nil
            case hp8q2 => (simp only [List.getElem?_toArray, List.getElem?_cons_zero, List.getElem?_cons_succ]; rfl)
            go_simp
            refine (HAB.out _).mono ?_
            rintro r wc1 ⟨rfl, kc1⟩
            refine hK.out _ _ (Tri.held (hHeld0.1.old kc1)) (fun hHeld1 => ?_)
            clear hK K
            try simp only [Act.put, List.setIfInBounds_toArray, List.set_cons_zero, List.set_cons_succ]
            refine wpAnyH_take (i := 3) (oi := ?op8q3) (v := .bool true) ?hp8q3 (by kernel_rfl) (by kernel_rfl) (by kernel_rfl) (fun _ _ _ h => h) ?yp8q3 (by assumption) ?rp8q3
            case hp8q3 => (simp only [List.getElem?_toArray, List.getElem?_cons_zero, List.getElem?_cons_succ]; rfl)
            case yp8q3 => exact Or.inl ⟨by rfl, by (intro W hSw; (try dsimp only at hSw); obtain ⟨s0, a0, a1, a2, a3, a4, a5, a6, b0, b1, b2, b3, b4, b5, b6, c0, c1, c2, c3, c4, c5, c6⟩ := hSw; go_simp)⟩
            simp only [Act.put, List.setIfInBounds_toArray, List.set_cons_zero, List.set_cons_succ]
            refine wpAnyH_take (i := 11) (oi := ?op8q11) (v := .bool true) ?hp8q11 (by kernel_rfl) (by kernel_rfl) (by kernel_rfl) (fun _ _ _ h => h) ?yp8q11 (by assumption) ?rp8q11
            case hp8q11 => (simp only [List.getElem?_toArray, List.getElem?_cons_zero, List.getElem?_cons_succ]; rfl)
            case yp8q11 => exact Or.inl ⟨by rfl, by (intro W hSw; (try dsimp only at hSw); obtain ⟨s0, a0, a1, a2, a3, a4, a5, a6, b0, b1, b2, b3, b4, b5, b6, c0, c1, c2, c3, c4, c5, c6⟩ := hSw; go_simp)⟩
            simp only [Act.put, List.setIfInBounds_toArray, List.set_cons_zero, List.set_cons_succ]
            refine wpAnyH_take (i := 12) (oi := ?op8q12) (v := .pointer (some ⟨w.heap.size, 0, none⟩)) ?hp8q12 (by kernel_rfl) (by kernel_rfl) (by kernel_rfl) (fun _ _ _ h => h) ?yp8q12 (by assumption) ?rp8q12
            case hp8q12 => (simp only [List.getElem?_toArray, List.getElem?_cons_zero, List.getElem?_cons_succ]; rfl)
            case yp8q12 => exact Or.inl ⟨by rfl, by (intro W hSw; (try dsimp only at hSw); obtain ⟨s0, a0, a1, a2, a3, a4, a5, a6, b0, b1, b2, b3, b4, b5, b6, c0, c1, c2, c3, c4, c5, c6⟩ := hSw; go_simp)⟩
            simp only [Act.put, List.setIfInBounds_toArray, List.set_cons_zero, List.set_cons_succ]
            refine wpAnyH_take (i := 13) (oi := ?op8q13) (v := .pointer (some ⟨w.heap.size, 1, none⟩)) ?hp8q13 (by kernel_rfl) (by kernel_rfl) (by kernel_rfl) (fun _ _ _ h => h) ?yp8q13 (by assumption) ?rp8q13
            case hp8q13 => (simp only [List.getElem?_toArray, List.getElem?_cons_zero, List.getElem?_cons_succ]; rfl)
            case yp8q13 => exact Or.inl ⟨by rfl, by (intro W hSw; (try dsimp only at hSw); obtain ⟨s0, a0, a1, a2, a3, a4, a5, a6, b0, b1, b2, b3, b4, b5, b6, c0, c1, c2, c3, c4, c5, c6⟩ := hSw; go_simp)⟩
            simp only [Act.put, List.setIfInBounds_toArray, List.set_cons_zero, List.set_cons_succ]
            refine wpAnyH_take (i := 14) (oi := ?op8q14) (v := .string (B a.c.col)) ?hp8q14 (by kernel_rfl) (by kernel_rfl) (by kernel_rfl) (fun _ _ _ h => h) ?yp8q14 (by assumption) ?rp8q14
            case hp8q14 => (simp only [List.getElem?_toArray, List.getElem?_cons_zero, List.getElem?_cons_succ]; rfl)
            case yp8q14 => exact Or.inl ⟨by rfl, by (intro W hSw; (try dsimp only at hSw); obtain ⟨s0, a0, a1, a2, a3, a4, a5, a6, b0, b1, b2, b3, b4, b5, b6, c0, c1, c2, c3, c4, c5, c6⟩ := hSw; go_simp)⟩
            simp only [Act.put, List.setIfInBounds_toArray, List.set_cons_zero, List.set_cons_succ]
            refine wpAnyH_take (i := 15) (oi := ?op8q15) (v := .pointer (some ⟨w.heap.size + 1, 0, none⟩)) ?hp8q15 (by kernel_rfl) (by kernel_rfl) (by kernel_rfl) (fun _ _ _ h => h) ?yp8q15 (by assumption) ?rp8q15
            case hp8q15 => (simp only [List.getElem?_toArray, List.getElem?_cons_zero, List.getElem?_cons_succ]; rfl)
            case yp8q15 => exact Or.inl ⟨by rfl, by (intro W hSw; (try dsimp only at hSw); obtain ⟨s0, a0, a1, a2, a3, a4, a5, a6, b0, b1, b2, b3, b4, b5, b6, c0, c1, c2, c3, c4, c5, c6⟩ := hSw; go_simp)⟩
            simp only [Act.put, List.setIfInBounds_toArray, List.set_cons_zero, List.set_cons_succ]
            refine wpAnyH_take (i := 16) (oi := ?op8q16) (v := .pointer (some ⟨w.heap.size + 1, 1, none⟩)) ?hp8q16 (by kernel_rfl) (by kernel_rfl) (by kernel_rfl) (fun _ _ _ h => h) ?yp8q16 (by assumption) ?rp8q16
            case hp8q16 => (simp only [List.getElem?_toArray, List.getElem?_cons_zero, List.getElem?_cons_succ]; rfl)
            case yp8q16 => exact Or.inl ⟨by rfl, by (intro W hSw; (try dsimp only at hSw); obtain ⟨s0, a0, a1, a2, a3, a4, a5, a6, b0, b1, b2, b3, b4, b5, b6, c0, c1, c2, c3, c4, c5, c6⟩ := hSw; go_simp)⟩
            simp only [Act.put, List.setIfInBounds_toArray, List.set_cons_zero, List.set_cons_succ]
            refine wpAnyH_take (i := 17) (oi := ?op8q17) (v := .string (B b.c.col)) ?hp8q17 (by kernel_rfl) (by kernel_rfl) (by kernel_rfl) (fun _ _ _ h => h) ?yp8q17 (by assumption) ?rp8q17
            case hp8q17 => (simp only [List.getElem?_toArray, List.getElem?_cons_zero, List.getElem?_cons_succ]; rfl)
            case yp8q17 => exact Or.inl ⟨by rfl, by (intro W hSw; (try dsimp only at hSw); obtain ⟨s0, a0, a1, a2, a3, a4, a5, a6, b0, b1, b2, b3, b4, b5, b6, c0, c1, c2, c3, c4, c5, c6⟩ := hSw; go_simp)⟩
            simp only [Act.put, List.setIfInBounds_toArray, List.set_cons_zero, List.set_cons_succ]
            refine wpAnyH_take (i := 18) (oi := ?op8q18) (v := .bool true) ?hp8q18 (by kernel_rfl) (by kernel_rfl) (by kernel_rfl) (fun _ _ _ h => h) ?yp8q18 (by assumption) ?rp8q18
            case hp8q18 => (simp only [List.getElem?_toArray, List.getElem?_cons_zero, List.getElem?_cons_succ]; rfl)
            case yp8q18 => exact Or.inl ⟨by rfl, by (intro W hSw; (try dsimp only at hSw); obtain ⟨s0, a0, a1, a2, a3, a4, a5, a6, b0, b1, b2, b3, b4, b5, b6, c0, c1, c2, c3, c4, c5, c6⟩ := hSw; go_simp)⟩
            simp only [Act.put, List.setIfInBounds_toArray, List.set_cons_zero, List.set_cons_succ]
            refine wpAnyH_take (i := 19) (oi := ?op8q19) (v := .bool true) ?hp8q19 (by kernel_rfl) (by kernel_rfl) (by kernel_rfl) (fun _ _ _ h => h) ?yp8q19 (by assumption) ?rp8q19
            case hp8q19 => (simp only [List.getElem?_toArray, List.getElem?_cons_zero, List.getElem?_cons_succ]; rfl)
            case yp8q19 => exact Or.inl ⟨by rfl, by (intro W hSw; (try dsimp only at hSw); obtain ⟨s0, a0, a1, a2, a3, a4, a5, a6, b0, b1, b2, b3, b4, b5, b6, c0, c1, c2, c3, c4, c5, c6⟩ := hSw; go_simp)⟩
            simp only [Act.put, List.setIfInBounds_toArray, List.set_cons_zero, List.set_cons_succ]
            refine wpAnyH_take (i := 20) (oi := ?op8q20) (v := .bool true) ?hp8q20 (by kernel_rfl) (by kernel_rfl) (by kernel_rfl) (fun _ _ _ h => h) ?yp8q20 (by assumption) ?rp8q20
            case hp8q20 => (simp only [List.getElem?_toArray, List.getElem?_cons_zero, List.getElem?_cons_succ]; rfl)
            case yp8q20 => exact Or.inl ⟨by rfl, by (intro W hSw; (try dsimp only at hSw); obtain ⟨s0, a0, a1, a2, a3, a4, a5, a6, b0, b1, b2, b3, b4, b5, b6, c0, c1, c2, c3, c4, c5, c6⟩ := hSw; go_simp)⟩
            simp only [Act.put, List.setIfInBounds_toArray, List.set_cons_zero, List.set_cons_succ]
            refine wpAnyH_take (i := 21) (oi := ?op8q21) (v := .pointer (some ⟨w.heap.size, 0, none⟩)) ?hp8q21 (by kernel_rfl) (by kernel_rfl) (by kernel_rfl) (fun _ _ _ h => h) ?yp8q21 (by assumption) ?rp8q21
            case hp8q21 => (simp only [List.getElem?_toArray, List.getElem?_cons_zero, List.getElem?_cons_succ]; rfl)
            case yp8q21 => exact Or.inl ⟨by rfl, by (intro W hSw; (try dsimp only at hSw); obtain ⟨s0, a0, a1, a2, a3, a4, a5, a6, b0, b1, b2, b3, b4, b5, b6, c0, c1, c2, c3, c4, c5, c6⟩ := hSw; go_simp)⟩
            simp only [Act.put, List.setIfInBounds_toArray, List.set_cons_zero, List.set_cons_succ]
            refine wpAnyH_take (i := 22) (oi := ?op8q22) (v := .pointer (some ⟨w.heap.size, 2, none⟩)) ?hp8q22 (by kernel_rfl) (by kernel_rfl) (by kernel_rfl) (fun _ _ _ h => h) ?yp8q22 (by assumption) ?rp8q22
            case hp8q22 => (simp only [List.getElem?_toArray, List.getElem?_cons_zero, List.getElem?_cons_succ]; rfl)
            case yp8q22 => exact Or.inl ⟨by rfl, by (intro W hSw; (try dsimp only at hSw); obtain ⟨s0, a0, a1, a2, a3, a4, a5, a6, b0, b1, b2, b3, b4, b5, b6, c0, c1, c2, c3, c4, c5, c6⟩ := hSw; go_simp)⟩
            simp only [Act.put, List.setIfInBounds_toArray, List.set_cons_zero, List.set_cons_succ]
            refine wpAnyH_take (i := 23) (oi := ?op8q23) (v := .int .u64 a.c.ts) ?hp8q23 (by kernel_rfl) (by kernel_rfl) (by kernel_rfl) (fun _ _ _ h => h) ?yp8q23 (by assumption) ?rp8q23
            case hp8q23 => (simp only [List.getElem?_toArray, List.getElem?_cons_zero, List.getElem?_cons_succ]; rfl)
            case yp8q23 => exact Or.inl ⟨by rfl, by (intro W hSw; (try dsimp only at hSw); obtain ⟨s0, a0, a1, a2, a3, a4, a5, a6, b0, b1, b2, b3, b4, b5, b6, c0, c1, c2, c3, c4, c5, c6⟩ := hSw; go_simp)⟩
            simp only [Act.put, List.setIfInBounds_toArray, List.set_cons_zero, List.set_cons_succ]
            refine wpAnyH_take (i := 24) (oi := ?op8q24) (v := .pointer (some ⟨w.heap.size + 1, 0, none⟩)) ?hp8q24 (by kernel_rfl) (by kernel_rfl) (by kernel_rfl) (fun _ _ _ h => h) ?yp8q24 (by assumption) ?rp8q24
            case hp8q24 => (simp only [List.getElem?_toArray, List.getElem?_cons_zero, List.getElem?_cons_succ]; rfl)
            case yp8q24 => exact Or.inl ⟨by rfl, by (intro W hSw; (try dsimp only at hSw); obtain ⟨s0, a0, a1, a2, a3, a4, a5, a6, b0, b1, b2, b3, b4, b5, b6, c0, c1, c2, c3, c4, c5, c6⟩ := hSw; go_simp)⟩
            simp only [Act.put, List.setIfInBounds_toArray, List.set_cons_zero, List.set_cons_succ]
            refine wpAnyH_take (i := 25) (oi := ?op8q25) (v := .pointer (some ⟨w.heap.size + 1, 2, none⟩)) ?hp8q25 (by kernel_rfl) (by kernel_rfl) (by kernel_rfl) (fun _ _ _ h => h) ?yp8q25 (by assumption) ?rp8q25
            case hp8q25 => (simp only [List.getElem?_toArray, List.getElem?_cons_zero, List.getElem?_cons_succ]; rfl)
            case yp8q25 => exact Or.inl ⟨by rfl, by (intro W hSw; (try dsimp only at hSw); obtain ⟨s0, a0, a1, a2, a3, a4, a5, a6, b0, b1, b2, b3, b4, b5, b6, c0, c1, c2, c3, c4, c5, c6⟩ := hSw; go_simp)⟩
            simp only [Act.put, List.setIfInBounds_toArray, List.set_cons_zero, List.set_cons_succ]
            refine wpAnyH_take (i := 26) (oi := ?op8q26) (v := .int .u64 b.c.ts) ?hp8q26 (by kernel_rfl) (by kernel_rfl) (by kernel_rfl) (fun _ _ _ h => h) ?yp8q26 (by assumption) ?rp8q26
            case hp8q26 => (simp only [List.getElem?_toArray, List.getElem?_cons_zero, List.getElem?_cons_succ]; rfl)
            case yp8q26 => exact Or.inl ⟨by rfl, by (intro W hSw; (try dsimp only at hSw); obtain ⟨s0, a0, a1, a2, a3, a4, a5, a6, b0, b1, b2, b3, b4, b5, b6, c0, c1, c2, c3, c4, c5, c6⟩ := hSw; go_simp)⟩
            simp only [Act.put, List.setIfInBounds_toArray, List.set_cons_zero, List.set_cons_succ]
            refine wpAnyH_take (i := 27) (oi := ?op8q27) (v := .bool true) ?hp8q27 (by kernel_rfl) (by kernel_rfl) (by kernel_rfl) (fun _ _ _ h => h) ?yp8q27 (by assumption) ?rp8q27
            case hp8q27 => (simp only [List.getElem?_toArray, List.getElem?_cons_zero, List.getElem?_cons_succ]; rfl)
            case yp8q27 => exact Or.inl ⟨by rfl, by (intro W hSw; (try dsimp only at hSw); obtain ⟨s0, a0, a1, a2, a3, a4, a5, a6, b0, b1, b2, b3, b4, b5, b6, c0, c1, c2, c3, c4, c5, c6⟩ := hSw; go_simp)⟩
            simp only [Act.put, List.setIfInBounds_toArray, List.set_cons_zero, List.set_cons_succ]
            refine wpAnyH_take (i := 28) (oi := ?op8q28) (v := .bool true) ?hp8q28 (by kernel_rfl) (by kernel_rfl) (by kernel_rfl) (fun _ _ _ h => h) ?yp8q28 (by assumption) ?rp8q28
            case hp8q28 => (simp only [List.getElem?_toArray, List.getElem?_cons_zero, List.getElem?_cons_succ]; rfl)
            case yp8q28 => exact Or.inl ⟨by rfl, by (intro W hSw; (try dsimp only at hSw); obtain ⟨s0, a0, a1, a2, a3, a4, a5, a6, b0, b1, b2, b3, b4, b5, b6, c0, c1, c2, c3, c4, c5, c6⟩ := hSw; go_simp)⟩
            simp only [Act.put, List.setIfInBounds_toArray, List.set_cons_zero, List.set_cons_succ]
            refine wpAnyH_take (i := 29) (oi := ?op8q29) (v := .bool true) ?hp8q29 (by kernel_rfl) (by kernel_rfl) (by kernel_rfl) (fun _ _ _ h => h) ?yp8q29 (by assumption) ?rp8q29
            case hp8q29 => (simp only [List.getElem?_toArray, List.getElem?_cons_zero, List.getElem?_cons_succ]; rfl)
            case yp8q29 => exact Or.inl ⟨by rfl, by (intro W hSw; (try dsimp only at hSw); obtain ⟨s0, a0, a1, a2, a3, a4, a5, a6, b0, b1, b2, b3, b4, b5, b6, c0, c1, c2, c3, c4, c5, c6⟩ := hSw; go_simp)⟩
            simp only [Act.put, List.setIfInBounds_toArray, List.set_cons_zero, List.set_cons_succ]
            refine wpAnyH_take (i := 30) (oi := ?op8q30) (v := .pointer (some ⟨w.heap.size, 6, none⟩)) ?hp8q30 (by kernel_rfl) (by kernel_rfl) (by kernel_rfl) (fun _ _ _ h => h) ?yp8q30 (by assumption) ?rp8q30
            case hp8q30 => (simp only [List.getElem?_toArray, List.getElem?_cons_zero, List.getElem?_cons_succ]; rfl)
            case yp8q30 => exact Or.inl ⟨by rfl, by (intro W hSw; (try dsimp only at hSw); obtain ⟨s0, a0, a1, a2, a3, a4, a5, a6, b0, b1, b2, b3, b4, b5, b6, c0, c1, c2, c3, c4, c5, c6⟩ := hSw; go_simp)⟩
            simp only [Act.put, List.setIfInBounds_toArray, List.set_cons_zero, List.set_cons_succ]
            refine wpAnyH_take (i := 31) (oi := ?op8q31) (v := .int .i64 a.pos) ?hp8q31 (by kernel_rfl) (by kernel_rfl) (by kernel_rfl) (fun _ _ _ h => h) ?yp8q31 (by assumption) ?rp8q31
            case hp8q31 => (simp only [List.getElem?_toArray, List.getElem?_cons_zero, List.getElem?_cons_succ]; rfl)
            case yp8q31 => exact Or.inl ⟨by rfl, by (intro W hSw; (try dsimp only at hSw); obtain ⟨s0, a0, a1, a2, a3, a4, a5, a6, b0, b1, b2, b3, b4, b5, b6, c0, c1, c2, c3, c4, c5, c6⟩ := hSw; go_simp)⟩
            simp only [Act.put, List.setIfInBounds_toArray, List.set_cons_zero, List.set_cons_succ]
            refine wpAnyH_take (i := 32) (oi := ?op8q32) (v := .pointer (some ⟨w.heap.size + 1, 6, none⟩)) ?hp8q32 (by kernel_rfl) (by kernel_rfl) (by kernel_rfl) (fun _ _ _ h => h) ?yp8q32 (by assumption) ?rp8q32
            case hp8q32 => (simp only [List.getElem?_toArray, List.getElem?_cons_zero, List.getElem?_cons_succ]; rfl)
            case yp8q32 => exact Or.inl ⟨by rfl, by (intro W hSw; (try dsimp only at hSw); obtain ⟨s0, a0, a1, a2, a3, a4, a5, a6, b0, b1, b2, b3, b4, b5, b6, c0, c1, c2, c3, c4, c5, c6⟩ := hSw; go_simp)⟩
            simp only [Act.put, List.setIfInBounds_toArray, List.set_cons_zero, List.set_cons_succ]
            refine wpAnyH_take (i := 33) (oi := ?op8q33) (v := .int .i64 b.pos) ?hp8q33 (by kernel_rfl) (by kernel_rfl) (by kernel_rfl) (fun _ _ _ h => h) ?yp8q33 (by assumption) ?rp8q33
            case hp8q33 => (simp only [List.getElem?_toArray, List.getElem?_cons_zero, List.getElem?_cons_succ]; rfl)
            case yp8q33 => exact Or.inl ⟨by rfl, by (intro W hSw; (try dsimp only at hSw); obtain ⟨s0, a0, a1, a2, a3, a4, a5, a6, b0, b1, b2, b3, b4, b5, b6, c0, c1, c2, c3, c4, c5, c6⟩ := hSw; go_simp)⟩
            simp only [Act.put, List.setIfInBounds_toArray, List.set_cons_zero, List.set_cons_succ]
            refine wpAnyH_take (i := 34) (oi := ?op8q34) (v := .bool true) ?hp8q34 (by kernel_rfl) (by kernel_rfl) (by kernel_rfl) (fun _ _ _ h => h) ?yp8q34 (by assumption) ?rp8q34
            case hp8q34 => (simp only [List.getElem?_toArray, List.getElem?_cons_zero, List.getElem?_cons_succ]; rfl)
            case yp8q34 => exact Or.inl ⟨by rfl, by (intro W hSw; (try dsimp only at hSw); obtain ⟨s0, a0, a1, a2, a3, a4, a5, a6, b0, b1, b2, b3, b4, b5, b6, c0, c1, c2, c3, c4, c5, c6⟩ := hSw; go_simp)⟩
            simp only [Act.put, List.setIfInBounds_toArray, List.set_cons_zero, List.set_cons_succ]
            refine wpAnyH_take (i := 35) (oi := ?op8q35) (v := .bool true) ?hp8q35 (by kernel_rfl) (by kernel_rfl) (by kernel_rfl) (fun _ _ _ h => h) ?yp8q35 (by assumption) ?rp8q35
            case hp8q35 => (simp only [List.getElem?_toArray, List.getElem?_cons_zero, List.getElem?_cons_succ]; rfl)
            case yp8q35 => exact Or.inl ⟨by rfl, by (intro W hSw; (try dsimp only at hSw); obtain ⟨s0, a0, a1, a2, a3, a4, a5, a6, b0, b1, b2, b3, b4, b5, b6, c0, c1, c2, c3, c4, c5, c6⟩ := hSw; go_simp)⟩
            simp only [Act.put, List.setIfInBounds_toArray, List.set_cons_zero, List.set_cons_succ]
            refine wpAnyH_take (i := 36) (oi := ?op8q36) (v := .bool true) ?hp8q36 (by kernel_rfl) (by kernel_rfl) (by kernel_rfl) (fun _ _ _ h => h) ?yp8q36 (by assumption) ?rp8q36
            case hp8q36 => (simp only [List.getElem?_toArray, List.getElem?_cons_zero, List.getElem?_cons_succ]; rfl)
            case yp8q36 => exact Or.inl ⟨by rfl, by (intro W hSw; (try dsimp only at hSw); obtain ⟨s0, a0, a1, a2, a3, a4, a5, a6, b0, b1, b2, b3, b4, b5, b6, c0, c1, c2, c3, c4, c5, c6⟩ := hSw; go_simp)⟩
            simp only [Act.put, List.setIfInBounds_toArray, List.set_cons_zero, List.set_cons_succ]
            refine wpAnyH_take (i := 37) (oi := ?op8q37) (v := .bool true) ?hp8q37 (by kernel_rfl) (by kernel_rfl) (by kernel_rfl) (fun _ _ _ h => h) ?yp8q37 (by assumption) ?rp8q37
            case hp8q37 => (simp only [List.getElem?_toArray, List.getElem?_cons_zero, List.getElem?_cons_succ]; rfl)
            case yp8q37 => exact Or.inl ⟨by rfl, by (intro W hSw; (try dsimp only at hSw); obtain ⟨s0, a0, a1, a2, a3, a4, a5, a6, b0, b1, b2, b3, b4, b5, b6, c0, c1, c2, c3, c4, c5, c6⟩ := hSw; go_simp)⟩
            simp only [Act.put, List.setIfInBounds_toArray, List.set_cons_zero, List.set_cons_succ]
            refine wpAnyH_done (by kernel_rfl) ?_ _
            refine NoPanic.normal ?_
            have o9 := hHeld1.1.od
            clear hHeld0 hHeld1 ft
            go_wp2
            go_ret
            exact ⟨rfl, o9⟩

set_option maxRecDepth 100000 in
theorem runsOrder_lifted (os : Os) (started : os.Started) (H : Type) (enc : TypeId × Value → H) :
    ReturnsInHanded {} Try.checked os 7 .any (Rows.runsOrderSpec.pre6 enc Try.prog Try.f7 Rows.runsOrderRow.domain false) (Rows.runsOrderSpec.post enc Try.prog Try.f7 false true false false) := by
  refine returnsInHanded_of_change_sized (C := Try.checked) Try.own started (by kernel_rfl) Try.func7
    (ChangeSpec.witness6 (enc := enc) (C := Try.checked) false ⟨#[], #[.agg zeroItem, .agg zeroItem, .agg zeroItem], []⟩ 8 (by kernel_rfl) (by kernel_rfl) (by kernel_rfl) (by kernel_rfl)) ?_
  intro W base args ds gs before hval0 hW hcnd hsz0 _
  have hval : ∀ (j : Nat) t v, Try.f7.params[j]? = some t → args[j]? = some v → Value.okWide Try.prog W .any base t v := hval0
  have hW' := hW
  obtain ⟨p, q, hA0, hV, rfl, hfz, hnd⟩ := hW
  have hA : DataW.TrodAll enc Try.prog W 0 (fun _ => true) true Try.f7.params.toList args.toList ds p := hA0
  have hsz : (DataW.weightsEach Try.prog (Try.f7.params.toList ++ Rows.runsOrderSpec.plain.varTypes Try.prog) (ds ++ gs)).all (· ≤ reachBytes) = true := hsz0
  rw [Try.params7] at hA hval hsz
  obtain ⟨v0, v1, v2, d0, d1, d2, p0, p1, p2, rfl, rfl, rfl, h0, h1, h2⟩ := trodAll_three hA
  obtain ⟨rfl, rfl⟩ := trodVars_none hV
  have hlt : ∀ x ∈ p0 ++ (p1 ++ (p2)), x.block < W.heap.size := fun x hx => hW'.lt x (by simpa using hx)
  have k0 := h0
  have k1 := h1
  have k2 := h2
  obtain ⟨a0, rfl⟩ := open_itm (hval 0 45 v0 rfl rfl) h0
  obtain ⟨a1, rfl⟩ := open_itm (hval 1 45 v1 rfl rfl) h1
  obtain ⟨a2, rfl⟩ := open_itm (hval 2 45 v2 rfl rfl) h2
  clear hA0 hval0 hsz0
  refine (law_order a0 a1 a2 W).mono fun e W' ⟨he, hb⟩ => ?_
  subst he
  refine ⟨_, rfl, _, _, _, [], p0 ++ (p1 ++ (p2)), [], hW', trodAll_mk1 (shut_bool Try.underlying4 _), ?_, rfl, hb.frame _, fun h => by cases h⟩
  have r0 := Below.trod Try.laidOut (by kernel_rfl) (of_decide_eq_true (by kernel_rfl)) k0 hb (fun x hx => hlt x (by simp [hx]))
  have r1 := Below.trod Try.laidOut (by kernel_rfl) (of_decide_eq_true (by kernel_rfl)) k1 hb (fun x hx => hlt x (by simp [hx]))
  have r2 := Below.trod Try.laidOut (by kernel_rfl) (of_decide_eq_true (by kernel_rfl)) k2 hb (fun x hx => hlt x (by simp [hx]))
  exact trodAll_mk3 r0 r1 r2

theorem runsOrder_holds : Rows.RunsOrderSaid :=
  OpenClaim.holds_of_wide 7 Try.f7 rfl rfl rfl rfl rfl rfl rfl ⟨rfl, rfl, rfl, rfl, rfl⟩ rfl rfl rfl rfl rfl (by kernel_rfl) Try.func7 (by kernel_rfl)
    (of_decide_eq_true (by kernel_rfl)) (by unfold Func.isWrapper; first | (rw [if_pos (by decide +kernel)]; kernel_rfl) | (rw [if_neg (by decide +kernel)]; exact ⟨rfl, rfl⟩))
    (fun os started H enc _ => runsOrder_lifted os started H enc)
#print axioms runsOrder_holds
end Go.Proofs.Ytkejcgfablnpjaa
