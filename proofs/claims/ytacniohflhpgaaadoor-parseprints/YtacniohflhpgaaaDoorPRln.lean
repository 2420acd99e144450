/-
  line of the reference. Conditions: lengths as written.
-/
import Derived.Test.YtacniohflhpgaaaDoorPRef
namespace Go.Proofs.YtacniohflhpgaaaDoor
open Go.RowKit

theorem seen_tail {x : UInt8} {v : List UInt8} (h : wordB (x :: v) = true) : seen v = true := by
  have := word_seen h
  rw [seen_cons, Bool.and_eq_true] at this
  exact this.2
theorem val_of_seen {v : List UInt8} (h : seen v = true) : valB v = decide (v.length ≤ 100) := by
  unfold valB wordB
  cases v with
  | nil => rfl
  | cons x v => rw [h]; simp
theorem last_ref (a b : List UInt8) (n : Nat) (d : List UInt8) (hw : wordB d = true) : lastO a b n d = if d = [45] then some ⟨a, b, n, 0, true, []⟩ else if d.head? = some 61 ∧ d.tail.length ≤ 100 then some ⟨a, b, n, 0, false, d.tail⟩ else none := by
  cases d with
  | nil => cases hw
  | cons x v =>
    rw [lastO_cons, val_of_seen (seen_tail hw)]
    by_cases hx : x = 61
    · subst hx
      rw [if_pos rfl, if_neg (show ¬ (61 :: v : List UInt8) = [45] by simp)]
      by_cases hv : v.length ≤ 100 <;> simp [hv]
    · rw [if_neg hx]
      by_cases h2 : x = 45 ∧ v = []
      · obtain ⟨rfl, rfl⟩ := h2; rfl
      · rw [if_neg h2, if_neg (by simpa using h2), if_neg (by simp [hx])]
theorem last_nw (a b : List UInt8) (n : Nat) (d : List UInt8) (hw : wordB d = false) : lastO a b n d = none := by
  cases d with
  | nil => rfl
  | cons x v =>
    rw [lastO_cons]
    by_cases hx : x = 61
    · subst hx
      rw [if_pos rfl, if_neg]
      intro hv
      have := val_seen hv
      simp [wordB, seen_cons, this] at hw
    · rw [if_neg hx, if_neg]
      rintro ⟨rfl, rfl⟩
      exact absurd hw (by decide)
theorem lineW_ref (a b c d : List UInt8) (h : ¬ (wordB a = true ∧ wordB b = true ∧ wordB d = true ∧ a.length ≤ 40 ∧ b.length ≤ 40)) : lineW [a, b, c, d] = none := by
  simp only [lineW]
  by_cases h1 : nameB a = true ∧ nameB b = true
  · rw [if_pos h1]
    simp [nameB] at h1
    have hd : wordB d = false := by
      cases hd : wordB d with
      | false => rfl
      | true => exact absurd ⟨h1.1.1, h1.2.1, hd, h1.1.2, h1.2.2⟩ h
    cases digO c with
    | none => rfl
    | some n => exact last_nw a b n d hd
  · rw [if_neg h1]
theorem lineW_yes (a b c d : List UInt8) (h : wordB a = true ∧ wordB b = true ∧ wordB d = true ∧ a.length ≤ 40 ∧ b.length ≤ 40) : lineW [a, b, c, d] = match digO c with | some n => lastO a b n d | none => none := by
  simp only [lineW]
  rw [if_pos (by simp [nameB, h])]
  cases digO c <;> rfl

theorem cell_far {w : World} {g o m : Nat} {u : Value} (h : w.cell? ⟨g, o, none⟩ = some u) (hne : g ≠ m) (k : Nat) (x : Value) : (w.setCell ⟨m, k, none⟩ x).cell? ⟨g, o, none⟩ = some u := by
  have h1 := Below.heap_setCell w ⟨m, k, none⟩ x g hne
  unfold World.cell? at h ⊢
  simp only at h ⊢
  rw [h1]
  exact h
theorem drew_cell (w : World) (p : Addr) : w.drew.cell? p = w.cell? p := rfl
theorem far6 {W : World} {g o r : Nat} {u : Value} (h : W.cell? ⟨g, o, none⟩ = some u) (hne : g ≠ r) (u0 u1 u2 u3 u4 u5 : Value) :
    ((((((W.setCell ⟨r, 0, none⟩ u0).setCell ⟨r, 1, none⟩ u1).setCell ⟨r, 2, none⟩ u2).setCell ⟨r, 3, none⟩ u3).setCell ⟨r, 4, none⟩ u4).setCell ⟨r, 5, none⟩ u5).drew.cell? ⟨g, o, none⟩ = some u := by
  rw [drew_cell]
  exact cell_far (cell_far (cell_far (cell_far (cell_far (cell_far h hne 0 u0) hne 1 u1) hne 2 u2) hne 3 u3) hne 4 u4) hne 5 u5
theorem bkfar6 {W : World} {g r : Nat} {t : TypeId} {cs : Array Value} (h : Bk W g t cs) (hne : g ≠ r) (u0 u1 u2 u3 u4 u5 : Value) :
    Bk ((((((W.setCell ⟨r, 0, none⟩ u0).setCell ⟨r, 1, none⟩ u1).setCell ⟨r, 2, none⟩ u2).setCell ⟨r, 3, none⟩ u3).setCell ⟨r, 4, none⟩ u4).setCell ⟨r, 5, none⟩ u5).drew g t cs :=
  ((((((h.far (p := ⟨r, 0, none⟩) hne u0).far (p := ⟨r, 1, none⟩) hne u1).far (p := ⟨r, 2, none⟩) hne u2).far (p := ⟨r, 3, none⟩) hne u3).far (p := ⟨r, 4, none⟩) hne u4).far (p := ⟨r, 5, none⟩) hne u5).drew
/-- What line answers. -/
def LinE (l : List UInt8) (e : Ending) : Prop := ∃ c, e = .returned (.tuple #[cv c, .bool (lineO l).isSome]) ∧ ∀ d, lineO l = some d → c = d

set_option maxHeartbeats 4000000 in
theorem rline_any (l : List UInt8) (w : World) (hl : l.length ≤ 10000) :
    Calls Tryd.prog 21 #[.string (B l)] w fun e w' => LinE l e ∧ Old w w' := by
  unfold LinE
  have C := fun W => rwords_any l W hl
  by_cases h4 : (spl 32 l).length = 4
  · obtain ⟨a, b, c, d, hs⟩ := four h4
    have la := (spl_mem 32 l a (by rw [hs]; simp)).2
    have lb := (spl_mem 32 l b (by rw [hs]; simp)).2
    have lc := (spl_mem 32 l c (by rw [hs]; simp)).2
    have ld := (spl_mem 32 l d (by rw [hs]; simp)).2
    have HO := Lib.hid (congrArg lineW hs)
    rw [← show lineO l = lineW (spl 32 l) from rfl] at HO
    obtain ⟨O, hO⟩ : ∃ O, O = lineO l := ⟨_, rfl⟩
    rw [← hO] at HO ⊢
    rw [hs] at C
    clear hO hs h4
    have ka : a.length ≤ 1000000000000000 := by omega
    have kb : b.length ≤ 1000000000000000 := by omega
    have kc : c.length ≤ 1000000000000000 := by omega
    have kd : d.length ≤ 1000000000000000 := by omega
    clear la lb lc ld hl
    go_enter Tryd.func21, Tryd.ntmps21
    go_wp2_with (go_at_call 32; refine (C _).mono ?_; rintro e W3 ⟨v, rfl, hown, ho⟩; refine Hid.out ?_)
    have o3 : Old w W3 := (old_alloc _ _).tr ho
    have hr : Bk W3 w.heap.size 33 zeroCell := (new_bk w _ _).old ho
    obtain ⟨A, cap, rfl, hcell⟩ := hown.form
    obtain ⟨g, rfl, t0⟩ := hcell 0 a rfl
    obtain ⟨g1, e1, t1⟩ := hcell 1 b rfl
    obtain ⟨g2, e2, t2⟩ := hcell 2 c rfl
    obtain ⟨g3, e3, t3⟩ := hcell 3 d rfl
    obtain rfl : g = g1 := by injection e1 with e1; injection e1
    obtain rfl : g = g2 := by injection e2 with e2; injection e2
    obtain rfl : g = g3 := by injection e3 with e3; injection e3
    clear e1 e2 e3 hcell hown C ho
    obtain ⟨r0, r1, r2, r3, r4, r5⟩ := hr.six
    have q0 := hr.fr
    refine Lib.hid ?_
    by_cases hR : wordB a = true ∧ wordB b = true ∧ wordB d = true ∧ a.length ≤ 40 ∧ b.length ≤ 40
    · obtain ⟨b0, b1, b2, b3, b4⟩ := hR
      have i3 : (a.length : Int) ≤ 40 := by omega
      have i4 : (b.length : Int) ≤ 40 := by omega
      have HY := Lib.hid (HO.out.trans (lineW_yes a b c d ⟨b0, b1, b2, b3, b4⟩))
      have Dg := fun W => rdigits_any c W kc
      cases hd : digO c with
      | none =>
        have HN := Lib.hid (show O = none by rw [HY.out, hd])
        rw [hd] at Dg
        go_wp2_with (first
          | (go_at_call 13; refine (rword_any _ _ (by assumption)).mono ?_; rintro e w' ⟨rfl, rfl⟩; simp only [b0, b1, b2])
          | (go_at_call 33; refine (Dg _).mono ?_; rintro e w' ⟨rfl, rfl⟩))
        exact bodyPost_ret (v := .tuple #[.agg zeroCell, .bool false]) (by simp [results, Tryd.results21, go_sem, r0, r1, r2, r3, r4, r5]) rfl ⟨⟨zeroC, by rw [HN.out]; rfl, by rw [HN.out]; simp⟩, by first | exact old6 o3 _ _ _ _ _ _ | exact o3⟩
      | some n =>
        have HZ := Lib.hid (show O = lastO a b n d by rw [HY.out, hd])
        have HL := Lib.hid (last_ref a b n d b2)
        rw [hd] at Dg
        go_upto_region 7 with (first
          | (go_at_call 13; refine (rword_any _ _ (by assumption)).mono ?_; rintro e w' ⟨rfl, rfl⟩; simp only [b0, b1, b2])
          | (go_at_call 33; refine (Dg _).mono ?_; rintro e w' ⟨rfl, rfl⟩))
        have y0 := cell_old t0 (old_alloc w' (.cells zeroCell 33))
        have y1 := cell_old t1 (old_alloc w' (.cells zeroCell 33))
        go_region
        have hmr : w.heap.size < w'.heap.size := hr.lt
        have o4 : Old w (w'.alloc (.cells (cells ⟨a, b, n, 0, false, []⟩) 33)).drew := (o3.al _).dr
        have hc4 : Bk (w'.alloc (.cells (cells ⟨a, b, n, 0, false, []⟩) 33)).drew w'.heap.size 33 (cells ⟨a, b, n, 0, false, []⟩) := (new_bk _ _ _).drew
        have hr4 : Bk (w'.alloc (.cells (cells ⟨a, b, n, 0, false, []⟩) 33)).drew w.heap.size 33 zeroCell := (hr.alloc _).drew
        have t4 : (w'.alloc (.cells (cells ⟨a, b, n, 0, false, []⟩) 33)).drew.cell? ⟨g, 3, none⟩ = some (.string (B d)) := cell_old t3 (old_alloc _ _).dr
        clear y0 y1 t0 t1 t2 t3 r0 r1 r2 r3 r4 r5 q0 hr
        generalize (w'.alloc (.cells (cells ⟨a, b, n, 0, false, []⟩) 33)).drew = W4 at *
        generalize w'.heap.size = m at *
        clear o3 w'
        obtain ⟨z0, z1, z2, z3, z4, z5⟩ := hc4.six
        have f4 := hc4.fr
        have hne : w.heap.size ≠ m := by omega
        have hle : w.heap.size ≤ m := by omega
        by_cases h45 : d = [45]
        · have HN := Lib.hid (show O = some ⟨a, b, n, 0, true, []⟩ by rw [HZ.out, HL.out, if_pos h45])
          subst h45
          go_upto_region 10 with (fail)
          have o5 : Old w (W4.setCell ⟨m, 4, none⟩ (.bool true)) := o4.st hle _
          have hc5 : Bk (W4.setCell ⟨m, 4, none⟩ (.bool true)) m 33 (cells ⟨a, b, n, 0, true, []⟩) := hc4.set_ 4 _
          have hr5 : Bk (W4.setCell ⟨m, 4, none⟩ (.bool true)) w.heap.size 33 zeroCell := hr4.far hne _
          generalize W4.setCell ⟨m, 4, none⟩ (.bool true) = W5 at *
          clear z0 z1 z2 z3 z4 z5 f4 hc4 hr4 o4 t4
          obtain ⟨z0, z1, z2, z3, z4, z5⟩ := hc5.six
          obtain ⟨r0, r1, r2, r3, r4, r5⟩ := hr5.six
          have q0 := hr5.fr
          go_wp2
          exact bodyPost_ret (v := .tuple #[cv ⟨a, b, n, 0, true, []⟩, .bool true]) (by simp [results, Tryd.results21, go_sem, r0, r1, r2, r3, r4, r5]) rfl ⟨⟨⟨a, b, n, 0, true, []⟩, by rw [HN.out]; rfl, by rw [HN.out]; intro d hd; injection hd⟩, by first | exact old6 o5 _ _ _ _ _ _ | exact o5⟩
        · have hd0 : 0 < d.length := by
            cases d with
            | nil => cases b2
            | cons x v => simp
          rw [if_neg h45] at HL
          have h45B : (d == [45]) = false := by rw [beq_eq_false_iff_ne]; exact h45
          have hx1 : (B d).extract 1 d.length = B d.tail := by rw [ext_drop _ _ _ (Nat.le_refl _), List.drop_one]
          have hhd : d.head? = some d[0] := by
            cases d with
            | nil => cases hd0
            | cons x v => rfl
          rw [hhd] at HL
          have HB := Lib.hid (B_at d 0 hd0)
          have htl : d.tail.length ≤ 1000000000000000 := by rw [List.length_tail]; omega
          clear h45 hhd
          generalize d.tail = v at *
          go_upto_region 12 with (fail)
          have o5 : Old w (W4.setCell ⟨m, 5, none⟩ (.string (B v))) := o4.st hle _
          have hc5 : Bk (W4.setCell ⟨m, 5, none⟩ (.string (B v))) m 33 (cells ⟨a, b, n, 0, false, v⟩) := hc4.set_ 5 _
          have hr5 : Bk (W4.setCell ⟨m, 5, none⟩ (.string (B v))) w.heap.size 33 zeroCell := hr4.far hne _
          have hgm : g ≠ m := by
            intro e
            subst e
            rw [t4] at z3
            cases z3
          have t5 : (W4.setCell ⟨m, 5, none⟩ (.string (B v))).cell? ⟨g, 3, none⟩ = some (.string (B d)) := by
            exact cell_far t4 hgm _ _
          have hgr : g ≠ w.heap.size := by
            intro e
            have := hr4.cell 3
            rw [← e, t4] at this
            cases this
          generalize W4.setCell ⟨m, 5, none⟩ (.string (B v)) = W5 at *
          clear z0 z1 z2 z3 z4 z5 f4 hc4 hr4 o4 t4
          obtain ⟨z0, z1, z2, z3, z4, z5⟩ := hc5.six
          obtain ⟨r0, r1, r2, r3, r4, r5⟩ := hr5.six
          have q0 := hr5.fr
          by_cases h61 : d[0] = 61
          · have hb2 : (B d)[0]'(by simpa [B, ByteArray.size] using hd0) = 61 := HB.out.trans h61
            have HN := Lib.hid (show O = if v.length ≤ 100 then some ⟨a, b, n, 0, false, v⟩ else none by rw [HZ.out, HL.out, h61]; by_cases hv : v.length ≤ 100 <;> simp [hv])
            go_region
            go_wp2
            refine bodyPost_ret (v := .tuple #[cv ⟨a, b, n, 0, false, v⟩, .bool (decide ((v.length : Int) ≤ 100))]) (by simp [results, Tryd.results21, go_sem, r0, r1, r2, r3, r4, r5]) rfl ⟨⟨⟨a, b, n, 0, false, v⟩, ?_, ?_⟩, by first | exact (old6 o5 _ _ _ _ _ _).dr | exact old6 o5.dr _ _ _ _ _ _⟩
            · rw [HN.out]
              by_cases hv : v.length ≤ 100
              · have hvI : (v.length : Int) ≤ 100 := by omega
                simp [hv, hvI]
              · have hvI : ¬ (v.length : Int) ≤ 100 := by omega
                simp [hv, hvI]
            · rw [HN.out]
              intro d' hd'
              split at hd'
              · injection hd'
              · cases hd'
          · have hb2 : ¬ (((B d)[0]'(by simpa [B, ByteArray.size] using hd0)).toNat : Int) = 61 := fun e => h61 (HB.out.symm.trans ((byte_n 61 (by decide)).1 e))
            have HN := Lib.hid (show O = none by rw [HZ.out, HL.out, if_neg (by simp [h61])])
            generalize hy : (B d)[0]'(by simpa [B, ByteArray.size] using hd0) = y at *
            clear z0 z1 z2 z3 z4 z5
            refine wp_region_noPanic ?_
            refine wp_region_held_drew (S := fun W => Bk W m 33 (cells ⟨a, b, n, 0, false, v⟩) ∧ W.cell? ⟨g, 3, none⟩ = some (.string (B d))) (by kernel_rfl) ⟨hc5, t5⟩ (fun hHeld => ?_)
            refine wpAnyH_take (i := 0) (oi := ?o0) (v := cv ⟨a, b, n, 0, false, v⟩) ?h0 (by kernel_rfl) (by kernel_rfl) (by kernel_rfl) (fun _ _ _ h => h) ?y0 (by assumption) ?r0
            case h0 => (simp only [List.getElem?_toArray, List.getElem?_cons_zero]; rfl)
            case y0 => exact Or.inl ⟨by rfl, by (intro W hSw; (try dsimp only at hSw); obtain ⟨hs1, hs2⟩ := hSw; obtain ⟨z0, z1, z2, z3, z4, z5⟩ := hs1.six; go_simp)⟩
            simp only [Act.put, List.setIfInBounds_toArray, List.set_cons_zero, List.set_cons_succ]
            refine wpAnyH_take (i := 1) (oi := ?o1) (v := .slice (some ⟨g, 0, none⟩) 4 cap) ?h1 (by kernel_rfl) (by kernel_rfl) (by kernel_rfl) (fun _ _ _ h => h) ?y1 (by assumption) ?r1
            case h1 => (simp only [List.getElem?_toArray, List.getElem?_cons_zero, List.getElem?_cons_succ]; rfl)
            case y1 => exact Or.inl ⟨by rfl, by (intro W hSw; (try dsimp only at hSw); obtain ⟨hs1, hs2⟩ := hSw; obtain ⟨z0, z1, z2, z3, z4, z5⟩ := hs1.six; go_simp)⟩
            simp only [Act.put, List.setIfInBounds_toArray, List.set_cons_zero, List.set_cons_succ]
            refine wpAnyH_take (i := 2) (oi := ?o2) (v := .pointer (some ⟨g, 3, none⟩)) ?h2 (by kernel_rfl) (by kernel_rfl) (by kernel_rfl) (fun _ _ _ h => h) ?y2 (by assumption) ?r2
            case h2 => (simp only [List.getElem?_toArray, List.getElem?_cons_zero, List.getElem?_cons_succ]; rfl)
            case y2 => exact Or.inl ⟨by rfl, by (intro W hSw; (try dsimp only at hSw); obtain ⟨hs1, hs2⟩ := hSw; obtain ⟨z0, z1, z2, z3, z4, z5⟩ := hs1.six; go_simp)⟩
            simp only [Act.put, List.setIfInBounds_toArray, List.set_cons_zero, List.set_cons_succ]
            refine wpAnyH_take (i := 3) (oi := ?o3) (v := .string (B d)) ?h3 (by kernel_rfl) (by kernel_rfl) (by kernel_rfl) (fun _ _ _ h => h) ?y3 (by assumption) ?r3
            case h3 => (simp only [List.getElem?_toArray, List.getElem?_cons_zero, List.getElem?_cons_succ]; rfl)
            case y3 => exact Or.inl ⟨by rfl, by (intro W hSw; (try dsimp only at hSw); obtain ⟨hs1, hs2⟩ := hSw; obtain ⟨z0, z1, z2, z3, z4, z5⟩ := hs1.six; go_simp)⟩
            simp only [Act.put, List.setIfInBounds_toArray, List.set_cons_zero, List.set_cons_succ]
            refine wpAnyH_take (i := 4) (oi := ?o4) (v := .int .u8 (y.toNat : Int)) ?h4 (by kernel_rfl) (by kernel_rfl) (by kernel_rfl) (fun _ _ _ h => h) ?y4 (by assumption) ?r4
            case h4 => (simp only [List.getElem?_toArray, List.getElem?_cons_zero, List.getElem?_cons_succ]; rfl)
            case y4 => exact Or.inl ⟨by rfl, by (intro W hSw; (try dsimp only at hSw); obtain ⟨hs1, hs2⟩ := hSw; obtain ⟨z0, z1, z2, z3, z4, z5⟩ := hs1.six; go_simp)⟩
            simp only [Act.put, List.setIfInBounds_toArray, List.set_cons_zero, List.set_cons_succ]
            refine wpAnyH_take (i := 5) (oi := ?o5) (v := .bool false) ?h5 (by kernel_rfl) (by kernel_rfl) (by kernel_rfl) (fun _ _ _ h => h) ?y5 (by assumption) ?r5
            case h5 => (simp only [List.getElem?_toArray, List.getElem?_cons_zero, List.getElem?_cons_succ]; rfl)
            case y5 => exact Or.inl ⟨by rfl, by (intro W hSw; (try dsimp only at hSw); obtain ⟨hs1, hs2⟩ := hSw; obtain ⟨z0, z1, z2, z3, z4, z5⟩ := hs1.six; go_simp)⟩
            simp only [Act.put, List.setIfInBounds_toArray, List.set_cons_zero, List.set_cons_succ]
            refine wpAnyH_take (i := 6) (oi := ?o6) (v := .bool false) ?h6 (by kernel_rfl) (by kernel_rfl) (by kernel_rfl) (fun _ _ _ h => h) ?y6 (by assumption) ?r6
            case h6 => (simp only [List.getElem?_toArray, List.getElem?_cons_zero, List.getElem?_cons_succ]; rfl)
            case y6 => exact Or.inl ⟨by rfl, by (intro W hSw; (try dsimp only at hSw); obtain ⟨hs1, hs2⟩ := hSw; obtain ⟨z0, z1, z2, z3, z4, z5⟩ := hs1.six; go_simp)⟩
            simp only [Act.put, List.setIfInBounds_toArray, List.set_cons_zero, List.set_cons_succ]
            refine wpAnyH_take (i := 7) (oi := ?o7) (v := undef) ?h7 (by kernel_rfl) (by kernel_rfl) (by kernel_rfl) (fun _ _ _ h => h) ?y7 (by assumption) ?r7
            case h7 => (simp only [List.getElem?_toArray, List.getElem?_cons_zero, List.getElem?_cons_succ]; rfl)
            case y7 => exact Or.inr ⟨by rfl, rfl⟩
            simp only [Act.put, List.setIfInBounds_toArray, List.set_cons_zero, List.set_cons_succ]
            refine wpAnyH_take (i := 8) (oi := ?o8) (v := undef) ?h8 (by kernel_rfl) (by kernel_rfl) (by kernel_rfl) (fun _ _ _ h => h) ?y8 (by assumption) ?r8
            case h8 => (simp only [List.getElem?_toArray, List.getElem?_cons_zero, List.getElem?_cons_succ]; rfl)
            case y8 => exact Or.inr ⟨by rfl, rfl⟩
            simp only [Act.put, List.setIfInBounds_toArray, List.set_cons_zero, List.set_cons_succ]
            refine wpAnyH_take (i := 9) (oi := ?o9) (v := undef) ?h9 (by kernel_rfl) (by kernel_rfl) (by kernel_rfl) (fun _ _ _ h => h) ?y9 (by assumption) ?r9
            case h9 => (simp only [List.getElem?_toArray, List.getElem?_cons_zero, List.getElem?_cons_succ]; rfl)
            case y9 => exact Or.inr ⟨by rfl, rfl⟩
            simp only [Act.put, List.setIfInBounds_toArray, List.set_cons_zero, List.set_cons_succ]
            refine wpAnyH_take (i := 10) (oi := ?o10) (v := undef) ?h10 (by kernel_rfl) (by kernel_rfl) (by kernel_rfl) (fun _ _ _ h => h) ?y10 (by assumption) ?r10
            case h10 => (simp only [List.getElem?_toArray, List.getElem?_cons_zero, List.getElem?_cons_succ]; rfl)
            case y10 => exact Or.inr ⟨by rfl, rfl⟩
            simp only [Act.put, List.setIfInBounds_toArray, List.set_cons_zero, List.set_cons_succ]
            refine wpAnyH_take (i := 11) (oi := ?o11) (v := .bool false) ?h11 (by kernel_rfl) (by kernel_rfl) (by kernel_rfl) (fun _ _ _ h => h) ?y11 (by assumption) ?r11
            case h11 => (simp only [List.getElem?_toArray, List.getElem?_cons_zero, List.getElem?_cons_succ]; rfl)
            case y11 => exact Or.inl ⟨by rfl, by (intro W hSw; (try dsimp only at hSw); obtain ⟨hs1, hs2⟩ := hSw; obtain ⟨z0, z1, z2, z3, z4, z5⟩ := hs1.six; go_simp)⟩
            simp only [Act.put, List.setIfInBounds_toArray, List.set_cons_zero, List.set_cons_succ]
            refine wpAnyH_ready (rs := [12]) (by kernel_rfl) (by simp) ?_
            refine AllReadyH.cons (o := ?o12) ?h12 (fun K hK => ?r12) AllReadyH.nil
            case h12 => (simp only [List.getElem?_toArray, List.getElem?_cons_zero, List.getElem?_cons_succ]; rfl)
            go_simp
            clear hHeld
            refine hK.out _ _ ?sN (fun hHeld => ?_)
            case sN =>
              have hmr2 : m ≠ w.heap.size := fun e => hne e.symm
              with_reducible exact ⟨bkfar6 hc5 hmr2 _ _ _ _ _ _, far6 t5 hgr _ _ _ _ _ _⟩
            clear hK K
            try simp only [Act.put, List.setIfInBounds_toArray, List.set_cons_zero, List.set_cons_succ]
            refine wpAnyH_take (i := 13) (oi := ?o13) (v := .bool false) ?h13 (by kernel_rfl) (by kernel_rfl) (by kernel_rfl) (fun _ _ _ h => h) ?y13 (by assumption) ?r13
            case h13 => (simp only [List.getElem?_toArray, List.getElem?_cons_zero, List.getElem?_cons_succ]; rfl)
            case y13 => exact Or.inl ⟨by rfl, by (intro W hSw; (try dsimp only at hSw); obtain ⟨hs1, hs2⟩ := hSw; go_simp)⟩
            simp only [Act.put, List.setIfInBounds_toArray, List.set_cons_zero, List.set_cons_succ]
            refine wpAnyH_done (by kernel_rfl) ?_ _
            refine NoPanic.normal ?_
            go_wp2
            exact bodyPost_ret (v := .tuple #[cv ⟨a, b, n, 0, false, v⟩, .bool false]) (by simp [results, Tryd.results21, go_sem, r0, r1, r2, r3, r4, r5]) rfl ⟨⟨⟨a, b, n, 0, false, v⟩, by rw [HN.out]; rfl, by rw [HN.out]; simp⟩, by first | exact (old6 o5 _ _ _ _ _ _).dr | exact old6 o5.dr _ _ _ _ _ _⟩
    · have HN := Lib.hid (HO.out.trans (lineW_ref a b c d hR))
      cases b0 : wordB a with
      | false =>
        go_wp2_with (go_at_call 13; refine (rword_any _ _ (by assumption)).mono ?_; rintro e w' ⟨rfl, rfl⟩; simp only [b0])
        exact bodyPost_ret (v := .tuple #[.agg zeroCell, .bool false]) (by simp [results, Tryd.results21, go_sem, r0, r1, r2, r3, r4, r5]) rfl ⟨⟨zeroC, by rw [HN.out]; rfl, by rw [HN.out]; simp⟩, by first | exact old6 o3 _ _ _ _ _ _ | exact o3⟩
      | true =>
        cases b1 : wordB b with
        | false =>
          go_wp2_with (go_at_call 13; refine (rword_any _ _ (by assumption)).mono ?_; rintro e w' ⟨rfl, rfl⟩; simp only [b0, b1])
          exact bodyPost_ret (v := .tuple #[.agg zeroCell, .bool false]) (by simp [results, Tryd.results21, go_sem, r0, r1, r2, r3, r4, r5]) rfl ⟨⟨zeroC, by rw [HN.out]; rfl, by rw [HN.out]; simp⟩, by first | exact old6 o3 _ _ _ _ _ _ | exact o3⟩
        | true =>
          cases b2 : wordB d with
          | false =>
            go_wp2_with (go_at_call 13; refine (rword_any _ _ (by assumption)).mono ?_; rintro e w' ⟨rfl, rfl⟩; simp only [b0, b1, b2])
            exact bodyPost_ret (v := .tuple #[.agg zeroCell, .bool false]) (by simp [results, Tryd.results21, go_sem, r0, r1, r2, r3, r4, r5]) rfl ⟨⟨zeroC, by rw [HN.out]; rfl, by rw [HN.out]; simp⟩, by first | exact old6 o3 _ _ _ _ _ _ | exact o3⟩
          | true =>
            by_cases b3 : a.length ≤ 40
            · have b4 : ¬ b.length ≤ 40 := fun e => hR ⟨b0, b1, b2, b3, e⟩
              have i3 : (a.length : Int) ≤ 40 := by omega
              have i4 : (40 : Int) < (b.length : Int) := by omega
              go_wp2_with (go_at_call 13; refine (rword_any _ _ (by assumption)).mono ?_; rintro e w' ⟨rfl, rfl⟩; simp only [b0, b1, b2])
              exact bodyPost_ret (v := .tuple #[.agg zeroCell, .bool false]) (by simp [results, Tryd.results21, go_sem, r0, r1, r2, r3, r4, r5]) rfl ⟨⟨zeroC, by rw [HN.out]; rfl, by rw [HN.out]; simp⟩, by first | exact old6 o3 _ _ _ _ _ _ | exact o3⟩
            · have i3 : (40 : Int) < (a.length : Int) := by omega
              go_wp2_with (go_at_call 13; refine (rword_any _ _ (by assumption)).mono ?_; rintro e w' ⟨rfl, rfl⟩; simp only [b0, b1, b2])
              exact bodyPost_ret (v := .tuple #[.agg zeroCell, .bool false]) (by simp [results, Tryd.results21, go_sem, r0, r1, r2, r3, r4, r5]) rfl ⟨⟨zeroC, by rw [HN.out]; rfl, by rw [HN.out]; simp⟩, by first | exact old6 o3 _ _ _ _ _ _ | exact o3⟩
  · rw [lineO_len h4]
    have n4 : ((spl 32 l).length : Int) ≠ 4 := by omega
    have n4' : (((spl 32 l).length : Int) == 4) = false := by rw [beq_eq_false_iff_ne]; exact n4
    generalize spl 32 l = L at *
    go_enter Tryd.func21, Tryd.ntmps21
    go_wp2_with (go_at_call 32; refine (C _).mono ?_; rintro e W3 ⟨v, rfl, hown, ho⟩; refine Hid.out ?_)
    have o3 : Old w W3 := (old_alloc _ _).tr ho
    have hr : Bk W3 w.heap.size 33 zeroCell := (new_bk w _ _).old ho
    obtain ⟨r0, r1, r2, r3, r4, r5⟩ := hr.six
    have q0 := hr.fr
    obtain ⟨A, cap, rfl, -⟩ := hown.form
    refine Lib.hid ?_
    go_wp2
    exact bodyPost_ret (v := .tuple #[.agg zeroCell, .bool false]) (by simp [results, Tryd.results21, go_sem, r0, r1, r2, r3, r4, r5]) rfl ⟨⟨zeroC, rfl, by simp⟩, by first | exact old6 o3 _ _ _ _ _ _ | exact o3⟩
end Go.Proofs.YtacniohflhpgaaaDoor
