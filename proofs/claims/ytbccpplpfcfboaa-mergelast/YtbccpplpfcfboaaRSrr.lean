/-
  Sorted of the reference. Conditions: lengths as written.
-/
import Derived.Test.YtbccpplpfcfboaaRSrt
namespace Go.Proofs.Ytbccpplpfcfboaa
open Go.RowKit

theorem ricmp_at (a b : Itm) (c : Int) (h : cmpI a b = c) (w : World) :
    Calls Try.prog 24 #[iv a, iv b] w fun e w' => e = .returned (.int .i64 c) ∧ Old w w' := by
  rw [← h]; exact ricmp_any a b w
theorem rsame_at (a b : Itm) (c : Bool) (h : sameI a b = c) (w : World) :
    Calls Try.prog 23 #[cv a.c, cv b.c] w fun e w' => e = .returned (.bool c) ∧ Old w w' := by
  rw [← h]; exact rsame_any a.c b.c w

set_option maxRecDepth 100000 in
set_option maxHeartbeats 8000000 in
theorem rsorted_any (w : World) (v : Value) (l : List Itm) (h : Itms w v l) (hl : l.length ≤ 100000) :
    Calls Try.prog 43 #[v] w fun e w' => e = .returned (.bool (sortedB l)) ∧ Old w w' := by
  obtain ⟨A, cap, rfl, hc⟩ := h.form
  have HI := Lib.hid h
  clear h
  go_enter Try.func43, Try.ntmps43
  go_wp2_with fail
  go_loopw [3] (fun i wr => ∃ k : Nat, k ≤ l.length ∧ i = .int .i64 ((k : Int) + 1) ∧ Old w wr ∧ Hid (sortedB l = sortedB (l.drop k))) (fun i _ => 100001 - (intOf i).toNat)
  case atStart => exact ⟨0, by omega, rfl, Old.re _, Lib.hid rfl⟩
  case round =>
    obtain ⟨k, hk, rfl, o1, HR⟩ := hrel
    by_cases h1 : k + 1 < l.length
    · obtain ⟨x, y, HX⟩ : ∃ x y, Hid (l[k]? = some x ∧ l[k + 1]? = some y ∧ l.drop k = x :: y :: l.drop (k + 2) ∧ l.drop (k + 1) = y :: l.drop (k + 2)) :=
        ⟨l[k], l[k + 1], Lib.hid ⟨List.getElem?_eq_getElem (by omega), List.getElem?_eq_getElem h1, by rw [List.drop_eq_getElem_cons (by omega), List.drop_eq_getElem_cons (i := k + 1) (by omega)], List.drop_eq_getElem_cons (by omega)⟩⟩
      obtain ⟨b, off, rfl, hx⟩ := (HI.out.old o1).at_ HX.out.1
      obtain ⟨b', off', hb, hy⟩ := (HI.out.old o1).at_ HX.out.2.1
      injection hb with hb
      injection hb with hb1 hb2
      subst hb1 hb2
      have hS := pr_of hx hy
      clear hx hy
      have hw1 : IntKind.i64.wrap ((k : Int) + 1 - 1) = (k : Int) := by rw [IntKind.wrap_i64]; omega
      have hw2 : IntKind.i64.wrap (k : Int) = (k : Int) := by rw [IntKind.wrap_i64]; omega
      have hb1 : (0 : Int) ≤ (k : Int) := by omega
      have hb2 : (k : Int) < (l.length : Int) := by omega
      have hb3 : (k : Int) + 1 < (l.length : Int) := by omega
      have hb4 : (0 : Int) ≤ (k : Int) + 1 := by omega
      have hb5 : ((k : Int) + 1).toNat = k + 1 := by omega
      by_cases hxy : cmpI x y < 0
      · have hC := cmpI_vals x y
        have HC := Lib.hid fun W => ricmp_at x y (-1) (by omega) W
        clear hC
        cases hsm : sameI x y with
        | true =>
          have HF := Lib.hid (sorted_no HR.out HX.out.2.2.1 (.inr hsm))
          have HM := Lib.hid fun W => rsame_at x y true hsm W
          clear hsm
          go_upto_region 4 with (fail)
          go_region_held3 (fun W => Old wr W ∧ W.cell? ⟨b, off + k * 7, none⟩ = some (.string (B x.c.row)) ∧ W.cell? ⟨b, off + k * 7 + 1, none⟩ = some (.string (B x.c.col)) ∧ W.cell? ⟨b, off + k * 7 + 2, none⟩ = some (.int .u64 x.c.ts) ∧ W.cell? ⟨b, off + k * 7 + 3, none⟩ = some (.int .u64 x.c.seq) ∧ W.cell? ⟨b, off + k * 7 + 4, none⟩ = some (.bool x.c.del) ∧ W.cell? ⟨b, off + k * 7 + 5, none⟩ = some (.string (B x.c.val)) ∧ W.cell? ⟨b, off + k * 7 + 6, none⟩ = some (.int .i64 x.pos) ∧ W.cell? ⟨b, off + (k + 1) * 7, none⟩ = some (.string (B y.c.row)) ∧ W.cell? ⟨b, off + (k + 1) * 7 + 1, none⟩ = some (.string (B y.c.col)) ∧ W.cell? ⟨b, off + (k + 1) * 7 + 2, none⟩ = some (.int .u64 y.c.ts) ∧ W.cell? ⟨b, off + (k + 1) * 7 + 3, none⟩ = some (.int .u64 y.c.seq) ∧ W.cell? ⟨b, off + (k + 1) * 7 + 4, none⟩ = some (.bool y.c.del) ∧ W.cell? ⟨b, off + (k + 1) * 7 + 5, none⟩ = some (.string (B y.c.val)) ∧ W.cell? ⟨b, off + (k + 1) * 7 + 6, none⟩ = some (.int .i64 y.pos)) (first | exact ⟨hS.1.dr, hS.2⟩ | exact pr_old (by assumption) (by assumption))
            (first
              | (go_at_call 24; with_reducible refine (HC.out _).mono ?_; rintro r w1 ⟨rfl, h1b⟩)
              | (go_at_call 23; with_reducible refine (HM.out _).mono ?_; rintro r w1 ⟨rfl, h1b⟩))
          rename_i hHeld
          have o2 := o1.tr hHeld.1
          clear hHeld hS
          go_wp2
          go_ret
          exact ⟨ret_bool HF.out.symm, o2⟩
        | false =>
          have HF := Lib.hid (sorted_go HR.out HX.out.2.2.1 hxy hsm HX.out.2.2.2)
          have HM := Lib.hid fun W => rsame_at x y false hsm W
          clear hsm
          go_upto_region 4 with (fail)
          go_region_held3 (fun W => Old wr W ∧ W.cell? ⟨b, off + k * 7, none⟩ = some (.string (B x.c.row)) ∧ W.cell? ⟨b, off + k * 7 + 1, none⟩ = some (.string (B x.c.col)) ∧ W.cell? ⟨b, off + k * 7 + 2, none⟩ = some (.int .u64 x.c.ts) ∧ W.cell? ⟨b, off + k * 7 + 3, none⟩ = some (.int .u64 x.c.seq) ∧ W.cell? ⟨b, off + k * 7 + 4, none⟩ = some (.bool x.c.del) ∧ W.cell? ⟨b, off + k * 7 + 5, none⟩ = some (.string (B x.c.val)) ∧ W.cell? ⟨b, off + k * 7 + 6, none⟩ = some (.int .i64 x.pos) ∧ W.cell? ⟨b, off + (k + 1) * 7, none⟩ = some (.string (B y.c.row)) ∧ W.cell? ⟨b, off + (k + 1) * 7 + 1, none⟩ = some (.string (B y.c.col)) ∧ W.cell? ⟨b, off + (k + 1) * 7 + 2, none⟩ = some (.int .u64 y.c.ts) ∧ W.cell? ⟨b, off + (k + 1) * 7 + 3, none⟩ = some (.int .u64 y.c.seq) ∧ W.cell? ⟨b, off + (k + 1) * 7 + 4, none⟩ = some (.bool y.c.del) ∧ W.cell? ⟨b, off + (k + 1) * 7 + 5, none⟩ = some (.string (B y.c.val)) ∧ W.cell? ⟨b, off + (k + 1) * 7 + 6, none⟩ = some (.int .i64 y.pos)) (first | exact ⟨hS.1.dr, hS.2⟩ | exact pr_old (by assumption) (by assumption))
            (first
              | (go_at_call 24; with_reducible refine (HC.out _).mono ?_; rintro r w1 ⟨rfl, h1b⟩)
              | (go_at_call 23; with_reducible refine (HM.out _).mono ?_; rintro r w1 ⟨rfl, h1b⟩))
          rename_i hHeld
          have o2 := o1.tr hHeld.1
          clear hHeld hS
          go_wp2
          go_roundw
          case rel => exact ⟨k + 1, by omega, by go_num, o2, HF⟩
          case measure => simp [intOf]; omega
      · have HF := Lib.hid (sorted_no HR.out HX.out.2.2.1 (.inl hxy))
        obtain ⟨c, hc0, hcc⟩ : ∃ c, cmpI x y = c ∧ decide ((0 : Int) ≤ c) = true := ⟨_, rfl, by simp; omega⟩
        have HC := Lib.hid fun W => ricmp_at x y c hc0 W
        clear hxy hc0
        go_upto_region 4 with (fail)
        refine wp_region_noPanic ?_
        refine wp_region_held_drew (S := fun W => Old wr W ∧ W.cell? ⟨b, off + k * 7, none⟩ = some (.string (B x.c.row)) ∧ W.cell? ⟨b, off + k * 7 + 1, none⟩ = some (.string (B x.c.col)) ∧ W.cell? ⟨b, off + k * 7 + 2, none⟩ = some (.int .u64 x.c.ts) ∧ W.cell? ⟨b, off + k * 7 + 3, none⟩ = some (.int .u64 x.c.seq) ∧ W.cell? ⟨b, off + k * 7 + 4, none⟩ = some (.bool x.c.del) ∧ W.cell? ⟨b, off + k * 7 + 5, none⟩ = some (.string (B x.c.val)) ∧ W.cell? ⟨b, off + k * 7 + 6, none⟩ = some (.int .i64 x.pos) ∧ W.cell? ⟨b, off + (k + 1) * 7, none⟩ = some (.string (B y.c.row)) ∧ W.cell? ⟨b, off + (k + 1) * 7 + 1, none⟩ = some (.string (B y.c.col)) ∧ W.cell? ⟨b, off + (k + 1) * 7 + 2, none⟩ = some (.int .u64 y.c.ts) ∧ W.cell? ⟨b, off + (k + 1) * 7 + 3, none⟩ = some (.int .u64 y.c.seq) ∧ W.cell? ⟨b, off + (k + 1) * 7 + 4, none⟩ = some (.bool y.c.del) ∧ W.cell? ⟨b, off + (k + 1) * 7 + 5, none⟩ = some (.string (B y.c.val)) ∧ W.cell? ⟨b, off + (k + 1) * 7 + 6, none⟩ = some (.int .i64 y.pos)) (by kernel_rfl) ⟨hS.1.dr, hS.2⟩ (fun hHeld => ?_)
        refine wpAnyH_take (i := 0) (oi := ?o0) (v := .slice (some ⟨b, off, none⟩) l.length cap) ?h0 (by kernel_rfl) (by kernel_rfl) (by kernel_rfl) (fun _ _ _ h => h) ?y0 (by assumption) ?r0
        case h0 => (simp only [List.getElem?_toArray, List.getElem?_cons_zero]; rfl)
        case y0 => exact Or.inl ⟨by rfl, by (intro W hSw; (try dsimp only at hSw); obtain ⟨s0, a0, a1, a2, a3, a4, a5, a6, b0, b1, b2, b3, b4, b5, b6⟩ := hSw; go_simp)⟩
        simp only [Act.put, List.setIfInBounds_toArray, List.set_cons_zero, List.set_cons_succ]
        refine wpAnyH_take (i := 1) (oi := ?o1) (v := .int .i64 ((k : Int) + 1)) ?h1 (by kernel_rfl) (by kernel_rfl) (by kernel_rfl) (fun _ _ _ h => h) ?y1 (by assumption) ?r1
        case h1 => (simp only [List.getElem?_toArray, List.getElem?_cons_zero, List.getElem?_cons_succ]; rfl)
        case y1 => exact Or.inl ⟨by rfl, by (intro W hSw; (try dsimp only at hSw); obtain ⟨s0, a0, a1, a2, a3, a4, a5, a6, b0, b1, b2, b3, b4, b5, b6⟩ := hSw; go_simp)⟩
        simp only [Act.put, List.setIfInBounds_toArray, List.set_cons_zero, List.set_cons_succ]
        refine wpAnyH_take (i := 2) (oi := ?o2) (v := .int .i64 (k : Int)) ?h2 (by kernel_rfl) (by kernel_rfl) (by kernel_rfl) (fun _ _ _ h => h) ?y2 (by assumption) ?r2
        case h2 => (simp only [List.getElem?_toArray, List.getElem?_cons_zero, List.getElem?_cons_succ]; rfl)
        case y2 => exact Or.inl ⟨by rfl, by (intro W hSw; (try dsimp only at hSw); obtain ⟨s0, a0, a1, a2, a3, a4, a5, a6, b0, b1, b2, b3, b4, b5, b6⟩ := hSw; go_simp)⟩
        simp only [Act.put, List.setIfInBounds_toArray, List.set_cons_zero, List.set_cons_succ]
        refine wpAnyH_take (i := 3) (oi := ?o3) (v := .pointer (some ⟨b, off + k * 7, none⟩)) ?h3 (by kernel_rfl) (by kernel_rfl) (by kernel_rfl) (fun _ _ _ h => h) ?y3 (by assumption) ?r3
        case h3 => (simp only [List.getElem?_toArray, List.getElem?_cons_zero, List.getElem?_cons_succ]; rfl)
        case y3 => exact Or.inl ⟨by rfl, by (intro W hSw; (try dsimp only at hSw); obtain ⟨s0, a0, a1, a2, a3, a4, a5, a6, b0, b1, b2, b3, b4, b5, b6⟩ := hSw; go_simp)⟩
        simp only [Act.put, List.setIfInBounds_toArray, List.set_cons_zero, List.set_cons_succ]
        refine wpAnyH_take (i := 4) (oi := ?o4) (v := iv x) ?h4 (by kernel_rfl) (by kernel_rfl) (by kernel_rfl) (fun _ _ _ h => h) ?y4 (by assumption) ?r4
        case h4 => (simp only [List.getElem?_toArray, List.getElem?_cons_zero, List.getElem?_cons_succ]; rfl)
        case y4 => exact Or.inl ⟨by rfl, by (intro W hSw; (try dsimp only at hSw); obtain ⟨s0, a0, a1, a2, a3, a4, a5, a6, b0, b1, b2, b3, b4, b5, b6⟩ := hSw; go_simp)⟩
        simp only [Act.put, List.setIfInBounds_toArray, List.set_cons_zero, List.set_cons_succ]
        refine wpAnyH_take (i := 5) (oi := ?o5) (v := .slice (some ⟨b, off, none⟩) l.length cap) ?h5 (by kernel_rfl) (by kernel_rfl) (by kernel_rfl) (fun _ _ _ h => h) ?y5 (by assumption) ?r5
        case h5 => (simp only [List.getElem?_toArray, List.getElem?_cons_zero, List.getElem?_cons_succ]; rfl)
        case y5 => exact Or.inl ⟨by rfl, by (intro W hSw; (try dsimp only at hSw); obtain ⟨s0, a0, a1, a2, a3, a4, a5, a6, b0, b1, b2, b3, b4, b5, b6⟩ := hSw; go_simp)⟩
        simp only [Act.put, List.setIfInBounds_toArray, List.set_cons_zero, List.set_cons_succ]
        refine wpAnyH_take (i := 6) (oi := ?o6) (v := .int .i64 ((k : Int) + 1)) ?h6 (by kernel_rfl) (by kernel_rfl) (by kernel_rfl) (fun _ _ _ h => h) ?y6 (by assumption) ?r6
        case h6 => (simp only [List.getElem?_toArray, List.getElem?_cons_zero, List.getElem?_cons_succ]; rfl)
        case y6 => exact Or.inl ⟨by rfl, by (intro W hSw; (try dsimp only at hSw); obtain ⟨s0, a0, a1, a2, a3, a4, a5, a6, b0, b1, b2, b3, b4, b5, b6⟩ := hSw; go_simp)⟩
        simp only [Act.put, List.setIfInBounds_toArray, List.set_cons_zero, List.set_cons_succ]
        refine wpAnyH_take (i := 7) (oi := ?o7) (v := .pointer (some ⟨b, off + (k + 1) * 7, none⟩)) ?h7 (by kernel_rfl) (by kernel_rfl) (by kernel_rfl) (fun _ _ _ h => h) ?y7 (by assumption) ?r7
        case h7 => (simp only [List.getElem?_toArray, List.getElem?_cons_zero, List.getElem?_cons_succ]; rfl)
        case y7 => exact Or.inl ⟨by rfl, by (intro W hSw; (try dsimp only at hSw); obtain ⟨s0, a0, a1, a2, a3, a4, a5, a6, b0, b1, b2, b3, b4, b5, b6⟩ := hSw; go_simp)⟩
        simp only [Act.put, List.setIfInBounds_toArray, List.set_cons_zero, List.set_cons_succ]
        refine wpAnyH_take (i := 8) (oi := ?o8) (v := iv y) ?h8 (by kernel_rfl) (by kernel_rfl) (by kernel_rfl) (fun _ _ _ h => h) ?y8 (by assumption) ?r8
        case h8 => (simp only [List.getElem?_toArray, List.getElem?_cons_zero, List.getElem?_cons_succ]; rfl)
        case y8 => exact Or.inl ⟨by rfl, by (intro W hSw; (try dsimp only at hSw); obtain ⟨s0, a0, a1, a2, a3, a4, a5, a6, b0, b1, b2, b3, b4, b5, b6⟩ := hSw; go_simp)⟩
        simp only [Act.put, List.setIfInBounds_toArray, List.set_cons_zero, List.set_cons_succ]
        refine wpAnyH_ready (rs := [9]) (by kernel_rfl) (by simp) ?_
        refine AllReadyH.cons (o := ?o9) ?h9 (fun K hK => ?r9) AllReadyH.nil
        case h9 => (simp only [List.getElem?_toArray, List.getElem?_cons_zero, List.getElem?_cons_succ]; rfl)
        go_simp
        refine (HC.out _).mono ?_
        rintro r w5 ⟨rfl, k5⟩
        refine hK.out _ _ (pr_old hHeld k5) (fun hHeld2 => ?_)
        clear hK K
        try simp only [Act.put, List.setIfInBounds_toArray, List.set_cons_zero, List.set_cons_succ]
        refine wpAnyH_take (i := 10) (oi := ?o10) (v := .bool true) ?h10 (by kernel_rfl) (by kernel_rfl) (by kernel_rfl) (fun _ _ _ h => h) ?y10 (by assumption) ?r10
        case h10 => (simp only [List.getElem?_toArray, List.getElem?_cons_zero, List.getElem?_cons_succ]; rfl)
        case y10 => exact Or.inl ⟨by rfl, by (intro W hSw; (try dsimp only at hSw); obtain ⟨s0, a0, a1, a2, a3, a4, a5, a6, b0, b1, b2, b3, b4, b5, b6⟩ := hSw; go_simp)⟩
        simp only [Act.put, List.setIfInBounds_toArray, List.set_cons_zero, List.set_cons_succ]
        refine wpAnyH_take (i := 11) (oi := ?o11) (v := .bool true) ?h11 (by kernel_rfl) (by kernel_rfl) (by kernel_rfl) (fun _ _ _ h => h) ?y11 (by assumption) ?r11
        case h11 => (simp only [List.getElem?_toArray, List.getElem?_cons_zero, List.getElem?_cons_succ]; rfl)
        case y11 => exact Or.inl ⟨by rfl, by (intro W hSw; (try dsimp only at hSw); obtain ⟨s0, a0, a1, a2, a3, a4, a5, a6, b0, b1, b2, b3, b4, b5, b6⟩ := hSw; go_simp)⟩
        simp only [Act.put, List.setIfInBounds_toArray, List.set_cons_zero, List.set_cons_succ]
        refine wpAnyH_take (i := 12) (oi := ?o12) (v := undef) ?h12 (by kernel_rfl) (by kernel_rfl) (by kernel_rfl) (fun _ _ _ h => h) ?y12 (by assumption) ?r12
        case h12 => (simp only [List.getElem?_toArray, List.getElem?_cons_zero, List.getElem?_cons_succ]; rfl)
        case y12 => exact Or.inr ⟨by rfl, rfl⟩
        simp only [Act.put, List.setIfInBounds_toArray, List.set_cons_zero, List.set_cons_succ]
        refine wpAnyH_take (i := 13) (oi := ?o13) (v := undef) ?h13 (by kernel_rfl) (by kernel_rfl) (by kernel_rfl) (fun _ _ _ h => h) ?y13 (by assumption) ?r13
        case h13 => (simp only [List.getElem?_toArray, List.getElem?_cons_zero, List.getElem?_cons_succ]; rfl)
        case y13 => exact Or.inr ⟨by rfl, rfl⟩
        simp only [Act.put, List.setIfInBounds_toArray, List.set_cons_zero, List.set_cons_succ]
        refine wpAnyH_take (i := 14) (oi := ?o14) (v := undef) ?h14 (by kernel_rfl) (by kernel_rfl) (by kernel_rfl) (fun _ _ _ h => h) ?y14 (by assumption) ?r14
        case h14 => (simp only [List.getElem?_toArray, List.getElem?_cons_zero, List.getElem?_cons_succ]; rfl)
        case y14 => exact Or.inr ⟨by rfl, rfl⟩
        simp only [Act.put, List.setIfInBounds_toArray, List.set_cons_zero, List.set_cons_succ]
        refine wpAnyH_take (i := 15) (oi := ?o15) (v := undef) ?h15 (by kernel_rfl) (by kernel_rfl) (by kernel_rfl) (fun _ _ _ h => h) ?y15 (by assumption) ?r15
        case h15 => (simp only [List.getElem?_toArray, List.getElem?_cons_zero, List.getElem?_cons_succ]; rfl)
        case y15 => exact Or.inr ⟨by rfl, rfl⟩
        simp only [Act.put, List.setIfInBounds_toArray, List.set_cons_zero, List.set_cons_succ]
        refine wpAnyH_take (i := 16) (oi := ?o16) (v := undef) ?h16 (by kernel_rfl) (by kernel_rfl) (by kernel_rfl) (fun _ _ _ h => h) ?y16 (by assumption) ?r16
        case h16 => (simp only [List.getElem?_toArray, List.getElem?_cons_zero, List.getElem?_cons_succ]; rfl)
        case y16 => exact Or.inr ⟨by rfl, rfl⟩
        simp only [Act.put, List.setIfInBounds_toArray, List.set_cons_zero, List.set_cons_succ]
        refine wpAnyH_take (i := 17) (oi := ?o17) (v := undef) ?h17 (by kernel_rfl) (by kernel_rfl) (by kernel_rfl) (fun _ _ _ h => h) ?y17 (by assumption) ?r17
        case h17 => (simp only [List.getElem?_toArray, List.getElem?_cons_zero, List.getElem?_cons_succ]; rfl)
        case y17 => exact Or.inr ⟨by rfl, rfl⟩
        simp only [Act.put, List.setIfInBounds_toArray, List.set_cons_zero, List.set_cons_succ]
        refine wpAnyH_take (i := 18) (oi := ?o18) (v := undef) ?h18 (by kernel_rfl) (by kernel_rfl) (by kernel_rfl) (fun _ _ _ h => h) ?y18 (by assumption) ?r18
        case h18 => (simp only [List.getElem?_toArray, List.getElem?_cons_zero, List.getElem?_cons_succ]; rfl)
        case y18 => exact Or.inr ⟨by rfl, rfl⟩
        simp only [Act.put, List.setIfInBounds_toArray, List.set_cons_zero, List.set_cons_succ]
        refine wpAnyH_take (i := 19) (oi := ?o19) (v := undef) ?h19 (by kernel_rfl) (by kernel_rfl) (by kernel_rfl) (fun _ _ _ h => h) ?y19 (by assumption) ?r19
        case h19 => (simp only [List.getElem?_toArray, List.getElem?_cons_zero, List.getElem?_cons_succ]; rfl)
        case y19 => exact Or.inr ⟨by rfl, rfl⟩
        simp only [Act.put, List.setIfInBounds_toArray, List.set_cons_zero, List.set_cons_succ]
        refine wpAnyH_take (i := 20) (oi := ?o20) (v := undef) ?h20 (by kernel_rfl) (by kernel_rfl) (by kernel_rfl) (fun _ _ _ h => h) ?y20 (by assumption) ?r20
        case h20 => (simp only [List.getElem?_toArray, List.getElem?_cons_zero, List.getElem?_cons_succ]; rfl)
        case y20 => exact Or.inr ⟨by rfl, rfl⟩
        simp only [Act.put, List.setIfInBounds_toArray, List.set_cons_zero, List.set_cons_succ]
        refine wpAnyH_take (i := 21) (oi := ?o21) (v := undef) ?h21 (by kernel_rfl) (by kernel_rfl) (by kernel_rfl) (fun _ _ _ h => h) ?y21 (by assumption) ?r21
        case h21 => (simp only [List.getElem?_toArray, List.getElem?_cons_zero, List.getElem?_cons_succ]; rfl)
        case y21 => exact Or.inr ⟨by rfl, rfl⟩
        simp only [Act.put, List.setIfInBounds_toArray, List.set_cons_zero, List.set_cons_succ]
        refine wpAnyH_take (i := 22) (oi := ?o22) (v := undef) ?h22 (by kernel_rfl) (by kernel_rfl) (by kernel_rfl) (fun _ _ _ h => h) ?y22 (by assumption) ?r22
        case h22 => (simp only [List.getElem?_toArray, List.getElem?_cons_zero, List.getElem?_cons_succ]; rfl)
        case y22 => exact Or.inr ⟨by rfl, rfl⟩
        simp only [Act.put, List.setIfInBounds_toArray, List.set_cons_zero, List.set_cons_succ]
        refine wpAnyH_take (i := 23) (oi := ?o23) (v := undef) ?h23 (by kernel_rfl) (by kernel_rfl) (by kernel_rfl) (fun _ _ _ h => h) ?y23 (by assumption) ?r23
        case h23 => (simp only [List.getElem?_toArray, List.getElem?_cons_zero, List.getElem?_cons_succ]; rfl)
        case y23 => exact Or.inr ⟨by rfl, rfl⟩
        simp only [Act.put, List.setIfInBounds_toArray, List.set_cons_zero, List.set_cons_succ]
        refine wpAnyH_take (i := 24) (oi := ?o24) (v := .bool true) ?h24 (by kernel_rfl) (by kernel_rfl) (by kernel_rfl) (fun _ _ _ h => h) ?y24 (by assumption) ?r24
        case h24 => (simp only [List.getElem?_toArray, List.getElem?_cons_zero, List.getElem?_cons_succ]; rfl)
        case y24 => exact Or.inl ⟨by rfl, by (intro W hSw; (try dsimp only at hSw); obtain ⟨s0, a0, a1, a2, a3, a4, a5, a6, b0, b1, b2, b3, b4, b5, b6⟩ := hSw; go_simp)⟩
        simp only [Act.put, List.setIfInBounds_toArray, List.set_cons_zero, List.set_cons_succ]
        refine wpAnyH_done (by kernel_rfl) ?_ _
        refine NoPanic.normal ?_
        have o2 := o1.tr hHeld2.1
        clear hHeld hHeld2 hS
        go_wp2
        go_ret
        exact ⟨ret_bool HF.out.symm, o2⟩
    · have HV := Lib.hid (show sortedB l = true by rw [HR.out]; exact sorted_short _ (by simp; omega))
      go_wp2_with fail
      go_ret
      exact ⟨ret_bool HV.out.symm, o1⟩
end Go.Proofs.Ytbccpplpfcfboaa
