/-
  MergeLast: whatever list of cells, and whatever two numbers, come in, the law answers true, and leaves all as it was. No conditions.
-/
import Derived.Test.YtbccpplpfcfboaaLMth
namespace Go.Proofs.Ytbccpplpfcfboaa
open Go.ChangeShapes Go.WideShapes Go.ChangeAt Go.RowKit Go.Joins Go.Deep

theorem mod_of (a q c : Nat) (qi ci : Int) (h1 : qi = (q : Int)) (h2 : ci = (c : Int)) (hq : 0 < q) : ∃ r k : Nat, (a : Int) % qi = (r : Int) ∧ ci + (r : Int) = (k : Int) ∧ c ≤ k ∧ k < c + q := by
  subst h1 h2
  exact ⟨a % q, c + a % q, by omega, by omega, by omega, by have := Nat.mod_lt a hq; omega⟩
theorem c2_old {w W W' : World} {g h o p : Nat} {x y : Cel} (k0 : Old w W ∧ W.cell? ⟨g, o, none⟩ = some (.string (B x.row)) ∧ W.cell? ⟨g, o + 1, none⟩ = some (.string (B x.col)) ∧ W.cell? ⟨g, o + 2, none⟩ = some (.int .u64 x.ts) ∧ W.cell? ⟨g, o + 3, none⟩ = some (.int .u64 x.seq) ∧ W.cell? ⟨g, o + 4, none⟩ = some (.bool x.del) ∧ W.cell? ⟨g, o + 5, none⟩ = some (.string (B x.val)) ∧ W.cell? ⟨h, p, none⟩ = some (.string (B y.row)) ∧ W.cell? ⟨h, p + 1, none⟩ = some (.string (B y.col)) ∧ W.cell? ⟨h, p + 2, none⟩ = some (.int .u64 y.ts) ∧ W.cell? ⟨h, p + 3, none⟩ = some (.int .u64 y.seq) ∧ W.cell? ⟨h, p + 4, none⟩ = some (.bool y.del) ∧ W.cell? ⟨h, p + 5, none⟩ = some (.string (B y.val))) (k : Old W W') : Old w W' ∧ W'.cell? ⟨g, o, none⟩ = some (.string (B x.row)) ∧ W'.cell? ⟨g, o + 1, none⟩ = some (.string (B x.col)) ∧ W'.cell? ⟨g, o + 2, none⟩ = some (.int .u64 x.ts) ∧ W'.cell? ⟨g, o + 3, none⟩ = some (.int .u64 x.seq) ∧ W'.cell? ⟨g, o + 4, none⟩ = some (.bool x.del) ∧ W'.cell? ⟨g, o + 5, none⟩ = some (.string (B x.val)) ∧ W'.cell? ⟨h, p, none⟩ = some (.string (B y.row)) ∧ W'.cell? ⟨h, p + 1, none⟩ = some (.string (B y.col)) ∧ W'.cell? ⟨h, p + 2, none⟩ = some (.int .u64 y.ts) ∧ W'.cell? ⟨h, p + 3, none⟩ = some (.int .u64 y.seq) ∧ W'.cell? ⟨h, p + 4, none⟩ = some (.bool y.del) ∧ W'.cell? ⟨h, p + 5, none⟩ = some (.string (B y.val)) := by
  obtain ⟨h0, a0, a1, a2, a3, a4, a5, b0, b1, b2, b3, b4, b5⟩ := k0
  exact ⟨h0.tr k, cell_old a0 k, cell_old a1 k, cell_old a2 k, cell_old a3 k, cell_old a4 k, cell_old a5 k, cell_old b0 k, cell_old b1 k, cell_old b2 k, cell_old b3 k, cell_old b4 k, cell_old b5 k⟩
theorem c2_of {w : World} {g h o p : Nat} {x y : Cel} (k0 : At6 w g o x) (k : At6 w h p y) : Old w w ∧ w.cell? ⟨g, o, none⟩ = some (.string (B x.row)) ∧ w.cell? ⟨g, o + 1, none⟩ = some (.string (B x.col)) ∧ w.cell? ⟨g, o + 2, none⟩ = some (.int .u64 x.ts) ∧ w.cell? ⟨g, o + 3, none⟩ = some (.int .u64 x.seq) ∧ w.cell? ⟨g, o + 4, none⟩ = some (.bool x.del) ∧ w.cell? ⟨g, o + 5, none⟩ = some (.string (B x.val)) ∧ w.cell? ⟨h, p, none⟩ = some (.string (B y.row)) ∧ w.cell? ⟨h, p + 1, none⟩ = some (.string (B y.col)) ∧ w.cell? ⟨h, p + 2, none⟩ = some (.int .u64 y.ts) ∧ w.cell? ⟨h, p + 3, none⟩ = some (.int .u64 y.seq) ∧ w.cell? ⟨h, p + 4, none⟩ = some (.bool y.del) ∧ w.cell? ⟨h, p + 5, none⟩ = some (.string (B y.val)) := by
  obtain ⟨a0, a1, a2, a3, a4, a5⟩ := k0.held
  obtain ⟨b0, b1, b2, b3, b4, b5⟩ := k.held
  exact ⟨Old.re _, a0, a1, a2, a3, a4, a5, b0, b1, b2, b3, b4, b5⟩
theorem any_next {l : List Cel} {f : Cel → Bool} {k j : Nat} {d : Cel} (h : l[j]? = some d) (hk : k ≤ j) : ((l.drop k).take (j + 1 - k)).any f = (((l.drop k).take (j - k)).any f || f d) := by
  have h1 : (l.drop k)[j - k]? = some d := by rw [List.getElem?_drop, show k + (j - k) = j by omega]; exact h
  rw [show j + 1 - k = j - k + 1 by omega, ← take_at h1, List.any_append]
  simp
theorem cnt_next {X : List Cel} {c x : Cel} {j : Nat} (h : X[j]? = some x) : cntB c (X.take (j + 1)) = cntB c (X.take j) + (if sameB c x = true then 1 else 0) := by
  unfold cntB
  rw [← take_at h, List.filter_append, List.length_append]
  congr 1
  rw [List.filter_cons]
  split <;> rfl
theorem cntL_le (l : List Cel) (k : Nat) : cntL l k ≤ k := by
  induction k with
  | zero => exact Nat.le_refl _
  | succ k ih =>
    rw [cntL]
    split
    · split <;> omega
    · omega
theorem cntL_next {l : List Cel} {k : Nat} {c : Cel} {b : Bool} (h : l[k]? = some c) (hb : b = laterB l k c) : cntL l (k + 1) = cntL l k + (if b = true then 0 else 1) := by
  rw [cntL, h, hb]

set_option maxRecDepth 100000 in
set_option maxHeartbeats 16000000 in
theorem law_last (v : Value) (l : List Cel) (a b : Nat) (w : World) (h : Cels w v l) (hml : l.length ≤ maxLen) (ha : a < 256) (hb : b < 256) :
    Calls Try.prog 6 #[v, .int .u8 (a : Int), .int .u8 (b : Int)] w fun e w' => e = .returned (.bool true) ∧ Old w w' := by
  obtain ⟨A0, cap0, rfl, hc0⟩ := h.form
  go_enter Try.func6, Try.ntmps6
  go_wp2_with fail
  refine (bounded_any _ _ _ h hml).mono ?_
  rintro e w1' ⟨rfl, rfl⟩
  cases hbd : boundedB l with
  | false =>
    go_wp2_with fail
    refine (shown_any _).mono ?_
    rintro e w2 ⟨rfl, o2⟩
    go_wp2
    go_ret
    exact ⟨rfl, o2⟩
  | true =>
    have hl2 : l.length ≤ 80 := bounded_len hbd
    clear hbd hml
    go_wp2_with fail
    refine (shown_any _).mono ?_
    rintro e w2 ⟨rfl, o2⟩
    obtain ⟨ra, ka, ea1, ea2, ea3, ea4⟩ := mod_of a 30 1 30 1 rfl rfl (by omega)
    obtain ⟨rb, kb, eb1, eb2, eb3, eb4⟩ := mod_of b 5 2 5 2 rfl rfl (by omega)
    have C := sort_any w2 (.slice A0 l.length cap0) l (h.old o2) (by omega) ka kb (by omega) (by omega) (by omega) (by omega)
    have HH := Lib.hid h
    clear h
    go_wp2_with fail
    refine C.mono ?_
    clear C
    rintro e w3 ⟨u, out, p, rfl, hs, hcl, o3⟩
    obtain ⟨cs, hcs⟩ : ∃ cs, out.map (·.c) = cs := ⟨_, rfl⟩
    rw [hcs] at hcl
    have hres := hs.res (by omega) (by omega)
    have hcl2 : cs.length ≤ 80 := by
      have h5 := hres.len_le
      rw [itemsOf_len] at h5
      rw [← hcs, List.length_map]
      omega
    have HRS := Lib.hid (And.intro hres hcs)
    have HXC := Lib.hid hcl
    have HLC := Lib.hid ((HH.out.old o2).old o3)
    have o4 := o2.tr o3
    obtain ⟨A1, c1, rfl, -⟩ := hcl.form
    clear hs hcl hcs hres HH o2 o3 ea1 ea2 eb1 eb2
    go_wp2_with fail
    go_loopw [10] (fun iv wr => ∃ k : Nat, iv = .int .i64 ((k : Int) + 1) ∧ k ≤ cs.length ∧ Old w3 wr) (fun iv _ => 100001 - (intOf iv).toNat)
    case atStart => exact ⟨0, rfl, Nat.zero_le _, Old.re _⟩
    case round =>
      obtain ⟨k, rfl, hk, o1⟩ := hrel
      by_cases h1 : k + 1 < cs.length
      · obtain ⟨x, y, HX⟩ : ∃ x y, Hid (cs[k]? = some x ∧ cs[k + 1]? = some y) := ⟨cs[k], cs[k + 1], Lib.hid ⟨List.getElem?_eq_getElem (by omega), List.getElem?_eq_getElem h1⟩⟩
        have hxy := strict_next HRS.out.1.1 (by rw [HRS.out.2]; exact HX.out.1) (by rw [HRS.out.2]; exact HX.out.2)
        obtain ⟨b1, off, rfl, hx⟩ := (HXC.out.old o1).at_ HX.out.1
        obtain ⟨b', off', hb', hy⟩ := (HXC.out.old o1).at_ HX.out.2
        injection hb' with hb'
        injection hb' with hb1 hb2
        subst hb1 hb2
        have hS := c2_of hx hy
        have HM : Hid (∀ W, Calls Try.prog 23 #[cv x, cv y] W fun e w' => e = .returned (.bool false) ∧ Old W w') := Lib.hid fun W => by rw [← hxy.1]; exact rsame_any x y W
        have HC : Hid (∀ W, Calls Try.prog 24 #[iv ⟨x, 0⟩, iv ⟨y, 0⟩] W fun e w' => e = .returned (.int .i64 (-1)) ∧ Old W w') := Lib.hid fun W => by rw [← hxy.2]; exact ricmp_any ⟨x, 0⟩ ⟨y, 0⟩ W
        clear hx hy hxy HX
        have hw1 : IntKind.i64.wrap ((k : Int) + 1 - 1) = (k : Int) := by rw [IntKind.wrap_i64]; omega
        have hw2 : IntKind.i64.wrap (k : Int) = (k : Int) := by rw [IntKind.wrap_i64]; omega
        have hb1 : (0 : Int) ≤ (k : Int) := by omega
        have hb2 : (k : Int) < (cs.length : Int) := by omega
        have hb3 : (k : Int) + 1 < (cs.length : Int) := by omega
        have hb4 : (0 : Int) ≤ (k : Int) + 1 := by omega
        have hb5 : ((k : Int) + 1).toNat = k + 1 := by omega
        go_upto_region 9 with (fail)
        go_region_held3 (fun W => Old wr W ∧ W.cell? ⟨b1, off + k * 6, none⟩ = some (.string (B x.row)) ∧ W.cell? ⟨b1, off + k * 6 + 1, none⟩ = some (.string (B x.col)) ∧ W.cell? ⟨b1, off + k * 6 + 2, none⟩ = some (.int .u64 x.ts) ∧ W.cell? ⟨b1, off + k * 6 + 3, none⟩ = some (.int .u64 x.seq) ∧ W.cell? ⟨b1, off + k * 6 + 4, none⟩ = some (.bool x.del) ∧ W.cell? ⟨b1, off + k * 6 + 5, none⟩ = some (.string (B x.val)) ∧ W.cell? ⟨b1, off + (k + 1) * 6, none⟩ = some (.string (B y.row)) ∧ W.cell? ⟨b1, off + (k + 1) * 6 + 1, none⟩ = some (.string (B y.col)) ∧ W.cell? ⟨b1, off + (k + 1) * 6 + 2, none⟩ = some (.int .u64 y.ts) ∧ W.cell? ⟨b1, off + (k + 1) * 6 + 3, none⟩ = some (.int .u64 y.seq) ∧ W.cell? ⟨b1, off + (k + 1) * 6 + 4, none⟩ = some (.bool y.del) ∧ W.cell? ⟨b1, off + (k + 1) * 6 + 5, none⟩ = some (.string (B y.val))) (first | exact c2_old hS (Old.re _).dr | assumption | exact c2_old (by assumption) (by assumption))
          (first
            | (go_at_call 23; with_reducible refine (HM.out _).mono ?_; rintro r w5 ⟨rfl, h1b⟩)
            | (go_at_call 24; with_reducible refine (HC.out _).mono ?_; rintro r w5 ⟨rfl, h1b⟩))
        rename_i hHeld
        have o5 := o1.tr hHeld.1
        clear hHeld hS HM HC
        go_wp2
        go_roundw
        case rel => exact ⟨k + 1, by go_num, by omega, o5⟩
        case measure => simp [intOf]; omega
      · have hb3 : ¬ (k : Int) + 1 < (cs.length : Int) := by omega
        clear h1 hk
        go_wp2_with fail
        go_loopw [11, 12] (fun nv iv wr => ∃ n i : Nat, nv = .int .i64 n ∧ iv = .int .i64 i ∧ i ≤ l.length ∧ n ≤ i ∧ Old w3 wr ∧ Hid (n = cntL l i)) (fun _ iv _ => l.length - (intOf iv).toNat)
        case atStart => exact ⟨0, 0, rfl, rfl, Nat.zero_le _, Nat.le_refl _, o1, Lib.hid rfl⟩
        case round =>
          clear o1
          obtain ⟨n, i, rfl, rfl, hi, hni, o1, HN⟩ := hrel
          have hb4 : (0 : Int) ≤ (i : Int) := by omega
          by_cases hil : i < l.length
          · obtain ⟨c, HX⟩ : ∃ c, Hid (l[i]? = some c) := ⟨l[i], Lib.hid (List.getElem?_eq_getElem hil)⟩
            have hb5 : (i : Int) < (l.length : Int) := by omega
            obtain ⟨b1, off, rfl, -⟩ := (HLC.out.old o1).at_ HX.out
            go_wp2_with fail
            go_loopw [13, 14] (fun lv jv wr => ∃ (lb : Bool) (j : Nat), lv = .bool lb ∧ jv = .int .i64 j ∧ i + 1 ≤ j ∧ j ≤ l.length ∧ Old w3 wr ∧ Hid (lb = ((l.drop (i + 1)).take (j - (i + 1))).any (sameB c))) (fun _ jv _ => l.length - (intOf jv).toNat)
            case atStart => exact ⟨false, i + 1, rfl, by go_num, by omega, by omega, o1, Lib.hid (by simp)⟩
            case round =>
              clear o1
              obtain ⟨lb, j, rfl, rfl, hj0, hj, o1, HB⟩ := hrel
              by_cases hjl : j < l.length
              · obtain ⟨d, HY⟩ : ∃ d, Hid (l[j]? = some d) := ⟨l[j], Lib.hid (List.getElem?_eq_getElem hjl)⟩
                have hb6 : (0 : Int) ≤ (j : Int) := by omega
                have hb7 : (j : Int) < (l.length : Int) := by omega
                have HAN := Lib.hid ((congrArg (· || sameB c d) HB.out).trans (any_next HY.out hj0).symm)
                cases lb with
                | true =>
                  go_upto_region 19 with (fail)
                  refine wp_region_noPanic ?_
                  refine wp_region_held_drew (S := fun _ => True) (by kernel_rfl) trivial (fun hHeld => ?_)
                  refine wpAnyH_take (i := 0) (oi := ?op1q0) (v := .bool true) ?hp1q0 (by kernel_rfl) (by kernel_rfl) (by kernel_rfl) (fun _ _ _ h => h) ?yp1q0 (by assumption) ?rp1q0
                  case hp1q0 => (simp only [List.getElem?_toArray, List.getElem?_cons_zero]; rfl)
                  case yp1q0 => exact Or.inl ⟨by rfl, by (intro W hSw; go_simp)⟩
                  simp only [Act.put, List.setIfInBounds_toArray, List.set_cons_zero, List.set_cons_succ]
                  refine wpAnyH_take (i := 1) (oi := ?op1q1) (v := .bool true) ?hp1q1 (by kernel_rfl) (by kernel_rfl) (by kernel_rfl) (fun _ _ _ h => h) ?yp1q1 (by assumption) ?rp1q1
                  case hp1q1 => (simp only [List.getElem?_toArray, List.getElem?_cons_zero, List.getElem?_cons_succ]; rfl)
                  case yp1q1 => exact Or.inl ⟨by rfl, by (intro W hSw; go_simp)⟩
                  simp only [Act.put, List.setIfInBounds_toArray, List.set_cons_zero, List.set_cons_succ]
                  refine wpAnyH_take (i := 2) (oi := ?op1q2) (v := undef) ?hp1q2 (by kernel_rfl) (by kernel_rfl) (by kernel_rfl) (fun _ _ _ h => h) ?yp1q2 (by assumption) ?rp1q2
                  case hp1q2 => (simp only [List.getElem?_toArray, List.getElem?_cons_zero, List.getElem?_cons_succ]; rfl)
                  case yp1q2 => exact Or.inr ⟨by rfl, rfl⟩
                  simp only [Act.put, List.setIfInBounds_toArray, List.set_cons_zero, List.set_cons_succ]
                  refine wpAnyH_take (i := 3) (oi := ?op1q3) (v := undef) ?hp1q3 (by kernel_rfl) (by kernel_rfl) (by kernel_rfl) (fun _ _ _ h => h) ?yp1q3 (by assumption) ?rp1q3
                  case hp1q3 => (simp only [List.getElem?_toArray, List.getElem?_cons_zero, List.getElem?_cons_succ]; rfl)
                  case yp1q3 => exact Or.inr ⟨by rfl, rfl⟩
                  simp only [Act.put, List.setIfInBounds_toArray, List.set_cons_zero, List.set_cons_succ]
                  refine wpAnyH_take (i := 4) (oi := ?op1q4) (v := undef) ?hp1q4 (by kernel_rfl) (by kernel_rfl) (by kernel_rfl) (fun _ _ _ h => h) ?yp1q4 (by assumption) ?rp1q4
                  case hp1q4 => (simp only [List.getElem?_toArray, List.getElem?_cons_zero, List.getElem?_cons_succ]; rfl)
                  case yp1q4 => exact Or.inr ⟨by rfl, rfl⟩
                  simp only [Act.put, List.setIfInBounds_toArray, List.set_cons_zero, List.set_cons_succ]
                  refine wpAnyH_take (i := 5) (oi := ?op1q5) (v := undef) ?hp1q5 (by kernel_rfl) (by kernel_rfl) (by kernel_rfl) (fun _ _ _ h => h) ?yp1q5 (by assumption) ?rp1q5
                  case hp1q5 => (simp only [List.getElem?_toArray, List.getElem?_cons_zero, List.getElem?_cons_succ]; rfl)
                  case yp1q5 => exact Or.inr ⟨by rfl, rfl⟩
                  simp only [Act.put, List.setIfInBounds_toArray, List.set_cons_zero, List.set_cons_succ]
                  refine wpAnyH_take (i := 6) (oi := ?op1q6) (v := undef) ?hp1q6 (by kernel_rfl) (by kernel_rfl) (by kernel_rfl) (fun _ _ _ h => h) ?yp1q6 (by assumption) ?rp1q6
                  case hp1q6 => (simp only [List.getElem?_toArray, List.getElem?_cons_zero, List.getElem?_cons_succ]; rfl)
                  case yp1q6 => exact Or.inr ⟨by rfl, rfl⟩
                  simp only [Act.put, List.setIfInBounds_toArray, List.set_cons_zero, List.set_cons_succ]
                  refine wpAnyH_take (i := 7) (oi := ?op1q7) (v := undef) ?hp1q7 (by kernel_rfl) (by kernel_rfl) (by kernel_rfl) (fun _ _ _ h => h) ?yp1q7 (by assumption) ?rp1q7
                  case hp1q7 => (simp only [List.getElem?_toArray, List.getElem?_cons_zero, List.getElem?_cons_succ]; rfl)
                  case yp1q7 => exact Or.inr ⟨by rfl, rfl⟩
                  simp only [Act.put, List.setIfInBounds_toArray, List.set_cons_zero, List.set_cons_succ]
                  refine wpAnyH_take (i := 8) (oi := ?op1q8) (v := undef) ?hp1q8 (by kernel_rfl) (by kernel_rfl) (by kernel_rfl) (fun _ _ _ h => h) ?yp1q8 (by assumption) ?rp1q8
                  case hp1q8 => (simp only [List.getElem?_toArray, List.getElem?_cons_zero, List.getElem?_cons_succ]; rfl)
                  case yp1q8 => exact Or.inr ⟨by rfl, rfl⟩
                  simp only [Act.put, List.setIfInBounds_toArray, List.set_cons_zero, List.set_cons_succ]
                  refine wpAnyH_take (i := 9) (oi := ?op1q9) (v := undef) ?hp1q9 (by kernel_rfl) (by kernel_rfl) (by kernel_rfl) (fun _ _ _ h => h) ?yp1q9 (by assumption) ?rp1q9
                  case hp1q9 => (simp only [List.getElem?_toArray, List.getElem?_cons_zero, List.getElem?_cons_succ]; rfl)
                  case yp1q9 => exact Or.inr ⟨by rfl, rfl⟩
                  simp only [Act.put, List.setIfInBounds_toArray, List.set_cons_zero, List.set_cons_succ]
                  refine wpAnyH_take (i := 10) (oi := ?op1q10) (v := undef) ?hp1q10 (by kernel_rfl) (by kernel_rfl) (by kernel_rfl) (fun _ _ _ h => h) ?yp1q10 (by assumption) ?rp1q10
                  case hp1q10 => (simp only [List.getElem?_toArray, List.getElem?_cons_zero, List.getElem?_cons_succ]; rfl)
                  case yp1q10 => exact Or.inr ⟨by rfl, rfl⟩
                  simp only [Act.put, List.setIfInBounds_toArray, List.set_cons_zero, List.set_cons_succ]
                  refine wpAnyH_take (i := 11) (oi := ?op1q11) (v := .bool true) ?hp1q11 (by kernel_rfl) (by kernel_rfl) (by kernel_rfl) (fun _ _ _ h => h) ?yp1q11 (by assumption) ?rp1q11
                  case hp1q11 => (simp only [List.getElem?_toArray, List.getElem?_cons_zero, List.getElem?_cons_succ]; rfl)
                  case yp1q11 => exact Or.inl ⟨by rfl, by (intro W hSw; go_simp)⟩
                  simp only [Act.put, List.setIfInBounds_toArray, List.set_cons_zero, List.set_cons_succ]
                  refine wpAnyH_take (i := 12) (oi := ?op1q12) (v := .bool true) ?hp1q12 (by kernel_rfl) (by kernel_rfl) (by kernel_rfl) (fun _ _ _ h => h) ?yp1q12 (by assumption) ?rp1q12
                  case hp1q12 => (simp only [List.getElem?_toArray, List.getElem?_cons_zero, List.getElem?_cons_succ]; rfl)
                  case yp1q12 => exact Or.inl ⟨by rfl, by (intro W hSw; go_simp)⟩
                  simp only [Act.put, List.setIfInBounds_toArray, List.set_cons_zero, List.set_cons_succ]
                  refine wpAnyH_done (by kernel_rfl) ?_ _
                  refine NoPanic.normal ?_
                  clear hHeld
                  go_wp2
                  go_roundw
                  case rel => exact ⟨true, j + 1, rfl, by go_num, by omega, by omega, (by first | exact o1 | exact o1.dr | exact o1.dn _), Lib.hid (HAN.out)⟩
                  case measure => simp [intOf]; omega
                | false =>
                  obtain ⟨s, hsm⟩ : ∃ s, sameB c d = s := ⟨_, rfl⟩
                  have HM : Hid (∀ W, Calls Try.prog 23 #[cv c, cv d] W fun e w' => e = .returned (.bool s) ∧ Old W w') := Lib.hid fun W => by rw [← hsm]; exact rsame_any c d W
                  have HS9 : Hid (s = ((l.drop (i + 1)).take (j + 1 - (i + 1))).any (sameB c)) := Lib.hid (by rw [← hsm]; exact HAN.out)
                  clear hsm HAN
                  obtain ⟨b', off', hb', hy⟩ := (HLC.out.old o1).at_ HY.out
                  injection hb' with hb'
                  injection hb' with hb1 hb2
                  subst hb1 hb2
                  obtain ⟨b', off', hb', hx⟩ := (HLC.out.old o1).at_ HX.out
                  injection hb' with hb'
                  injection hb' with hb1 hb2
                  subst hb1 hb2
                  have hS := c2_of hx hy
                  clear hx hy
                  go_upto_region 19 with (fail)
                  go_region_held3 (fun W => Old wr W ∧ W.cell? ⟨b1, off + i * 6, none⟩ = some (.string (B c.row)) ∧ W.cell? ⟨b1, off + i * 6 + 1, none⟩ = some (.string (B c.col)) ∧ W.cell? ⟨b1, off + i * 6 + 2, none⟩ = some (.int .u64 c.ts) ∧ W.cell? ⟨b1, off + i * 6 + 3, none⟩ = some (.int .u64 c.seq) ∧ W.cell? ⟨b1, off + i * 6 + 4, none⟩ = some (.bool c.del) ∧ W.cell? ⟨b1, off + i * 6 + 5, none⟩ = some (.string (B c.val)) ∧ W.cell? ⟨b1, off + j * 6, none⟩ = some (.string (B d.row)) ∧ W.cell? ⟨b1, off + j * 6 + 1, none⟩ = some (.string (B d.col)) ∧ W.cell? ⟨b1, off + j * 6 + 2, none⟩ = some (.int .u64 d.ts) ∧ W.cell? ⟨b1, off + j * 6 + 3, none⟩ = some (.int .u64 d.seq) ∧ W.cell? ⟨b1, off + j * 6 + 4, none⟩ = some (.bool d.del) ∧ W.cell? ⟨b1, off + j * 6 + 5, none⟩ = some (.string (B d.val))) (first | exact c2_old hS (Old.re _).dr | assumption | exact c2_old (by assumption) (by assumption))
                    (first
                      | (go_at_call 23; with_reducible refine (HM.out _).mono ?_; rintro r w5 ⟨rfl, h1b⟩))
                  rename_i hHeld
                  have o5 := o1.tr hHeld.1
                  clear hHeld hS HM
                  go_wp2
                  go_roundw
                  case rel => exact ⟨s, j + 1, rfl, by go_num, by omega, by omega, o5, HS9⟩
                  case measure => simp [intOf]; omega
              · obtain rfl : j = l.length := by omega
                have HB2 : Hid (lb = laterB l i c) := Lib.hid (by have h5 := HB.out; rwa [List.take_of_length_le (by simp)] at h5)
                clear HB hj0 hj hjl
                go_wp2_with fail
                go_loopw [15, 16] (fun nv jv wr => ∃ m j : Nat, nv = .int .i64 m ∧ jv = .int .i64 j ∧ j ≤ cs.length ∧ m ≤ j ∧ Old w3 wr ∧ Hid (m = cntB c (cs.take j))) (fun _ jv _ => cs.length - (intOf jv).toNat)
                case atStart => exact ⟨0, 0, rfl, rfl, Nat.zero_le _, Nat.le_refl _, o1, Lib.hid rfl⟩
                case round =>
                  clear o1
                  obtain ⟨m, j, rfl, rfl, hj, hm, o1, HC⟩ := hrel
                  by_cases hjl : j < cs.length
                  · obtain ⟨x, HY⟩ : ∃ x, Hid (cs[j]? = some x) := ⟨cs[j], Lib.hid (List.getElem?_eq_getElem hjl)⟩
                    have hb6 : (0 : Int) ≤ (j : Int) := by omega
                    have hb7 : (j : Int) < (cs.length : Int) := by omega
                    obtain ⟨s, hsm⟩ : ∃ s, sameB c x = s := ⟨_, rfl⟩
                    have HM : Hid (∀ W, Calls Try.prog 23 #[cv c, cv x] W fun e w' => e = .returned (.bool s) ∧ Old W w') := Lib.hid fun W => by rw [← hsm]; exact rsame_any c x W
                    have HSM := Lib.hid hsm
                    clear hsm
                    obtain ⟨b2, off2, rfl, hy⟩ := (HXC.out.old o1).at_ HY.out
                    obtain ⟨b', off', hb', hx⟩ := (HLC.out.old o1).at_ HX.out
                    injection hb' with hb'
                    injection hb' with hb1 hb2
                    subst hb1 hb2
                    have hS := c2_of hx hy
                    clear hx hy
                    go_upto_region 24 with (fail)
                    go_region_held3 (fun W => Old wr W ∧ W.cell? ⟨b1, off + i * 6, none⟩ = some (.string (B c.row)) ∧ W.cell? ⟨b1, off + i * 6 + 1, none⟩ = some (.string (B c.col)) ∧ W.cell? ⟨b1, off + i * 6 + 2, none⟩ = some (.int .u64 c.ts) ∧ W.cell? ⟨b1, off + i * 6 + 3, none⟩ = some (.int .u64 c.seq) ∧ W.cell? ⟨b1, off + i * 6 + 4, none⟩ = some (.bool c.del) ∧ W.cell? ⟨b1, off + i * 6 + 5, none⟩ = some (.string (B c.val)) ∧ W.cell? ⟨b2, off2 + j * 6, none⟩ = some (.string (B x.row)) ∧ W.cell? ⟨b2, off2 + j * 6 + 1, none⟩ = some (.string (B x.col)) ∧ W.cell? ⟨b2, off2 + j * 6 + 2, none⟩ = some (.int .u64 x.ts) ∧ W.cell? ⟨b2, off2 + j * 6 + 3, none⟩ = some (.int .u64 x.seq) ∧ W.cell? ⟨b2, off2 + j * 6 + 4, none⟩ = some (.bool x.del) ∧ W.cell? ⟨b2, off2 + j * 6 + 5, none⟩ = some (.string (B x.val))) (first | exact c2_old hS (Old.re _).dr | assumption | exact c2_old (by assumption) (by assumption))
                      (first
                        | (go_at_call 23; with_reducible refine (HM.out _).mono ?_; rintro r w5 ⟨rfl, h1b⟩))
                    rename_i hHeld
                    have o5 := o1.tr hHeld.1
                    clear hS HM
                    cases s with
                    | false =>
                      clear hHeld
                      go_wp2
                      go_roundw
                      case rel => exact ⟨m, j + 1, rfl, by go_num, by omega, by omega, o5, Lib.hid (by rw [cnt_next HY.out, if_neg (by rw [HSM.out]; exact Bool.false_ne_true)]; exact HC.out)⟩
                      case measure => simp [intOf]; omega
                    | true =>
                      cases lb with
                      | true =>
                        clear hHeld
                        go_upto_region 26 with (fail)
                        refine wp_region_noPanic ?_
                        refine wp_region_held_drew (S := fun _ => True) (by kernel_rfl) trivial (fun hHeld => ?_)
                        refine wpAnyH_take (i := 0) (oi := ?op2q0) (v := .bool true) ?hp2q0 (by kernel_rfl) (by kernel_rfl) (by kernel_rfl) (fun _ _ _ h => h) ?yp2q0 (by assumption) ?rp2q0
                        case hp2q0 => (simp only [List.getElem?_toArray, List.getElem?_cons_zero]; rfl)
                        case yp2q0 => exact Or.inl ⟨by rfl, by (intro W hSw; go_simp)⟩
                        simp only [Act.put, List.setIfInBounds_toArray, List.set_cons_zero, List.set_cons_succ]
                        refine wpAnyH_take (i := 1) (oi := ?op2q1) (v := .bool false) ?hp2q1 (by kernel_rfl) (by kernel_rfl) (by kernel_rfl) (fun _ _ _ h => h) ?yp2q1 (by assumption) ?rp2q1
                        case hp2q1 => (simp only [List.getElem?_toArray, List.getElem?_cons_zero, List.getElem?_cons_succ]; rfl)
                        case yp2q1 => exact Or.inl ⟨by rfl, by (intro W hSw; go_simp)⟩
                        simp only [Act.put, List.setIfInBounds_toArray, List.set_cons_zero, List.set_cons_succ]
                        refine wpAnyH_take (i := 2) (oi := ?op2q2) (v := .bool false) ?hp2q2 (by kernel_rfl) (by kernel_rfl) (by kernel_rfl) (fun _ _ _ h => h) ?yp2q2 (by assumption) ?rp2q2
                        case hp2q2 => (simp only [List.getElem?_toArray, List.getElem?_cons_zero, List.getElem?_cons_succ]; rfl)
                        case yp2q2 => exact Or.inl ⟨by rfl, by (intro W hSw; go_simp)⟩
                        simp only [Act.put, List.setIfInBounds_toArray, List.set_cons_zero, List.set_cons_succ]
                        refine wpAnyH_take (i := 3) (oi := ?op2q3) (v := undef) ?hp2q3 (by kernel_rfl) (by kernel_rfl) (by kernel_rfl) (fun _ _ _ h => h) ?yp2q3 (by assumption) ?rp2q3
                        case hp2q3 => (simp only [List.getElem?_toArray, List.getElem?_cons_zero, List.getElem?_cons_succ]; rfl)
                        case yp2q3 => exact Or.inr ⟨by rfl, rfl⟩
                        simp only [Act.put, List.setIfInBounds_toArray, List.set_cons_zero, List.set_cons_succ]
                        refine wpAnyH_take (i := 4) (oi := ?op2q4) (v := undef) ?hp2q4 (by kernel_rfl) (by kernel_rfl) (by kernel_rfl) (fun _ _ _ h => h) ?yp2q4 (by assumption) ?rp2q4
                        case hp2q4 => (simp only [List.getElem?_toArray, List.getElem?_cons_zero, List.getElem?_cons_succ]; rfl)
                        case yp2q4 => exact Or.inr ⟨by rfl, rfl⟩
                        simp only [Act.put, List.setIfInBounds_toArray, List.set_cons_zero, List.set_cons_succ]
                        refine wpAnyH_take (i := 5) (oi := ?op2q5) (v := undef) ?hp2q5 (by kernel_rfl) (by kernel_rfl) (by kernel_rfl) (fun _ _ _ h => h) ?yp2q5 (by assumption) ?rp2q5
                        case hp2q5 => (simp only [List.getElem?_toArray, List.getElem?_cons_zero, List.getElem?_cons_succ]; rfl)
                        case yp2q5 => exact Or.inr ⟨by rfl, rfl⟩
                        simp only [Act.put, List.setIfInBounds_toArray, List.set_cons_zero, List.set_cons_succ]
                        refine wpAnyH_take (i := 6) (oi := ?op2q6) (v := undef) ?hp2q6 (by kernel_rfl) (by kernel_rfl) (by kernel_rfl) (fun _ _ _ h => h) ?yp2q6 (by assumption) ?rp2q6
                        case hp2q6 => (simp only [List.getElem?_toArray, List.getElem?_cons_zero, List.getElem?_cons_succ]; rfl)
                        case yp2q6 => exact Or.inr ⟨by rfl, rfl⟩
                        simp only [Act.put, List.setIfInBounds_toArray, List.set_cons_zero, List.set_cons_succ]
                        refine wpAnyH_take (i := 7) (oi := ?op2q7) (v := undef) ?hp2q7 (by kernel_rfl) (by kernel_rfl) (by kernel_rfl) (fun _ _ _ h => h) ?yp2q7 (by assumption) ?rp2q7
                        case hp2q7 => (simp only [List.getElem?_toArray, List.getElem?_cons_zero, List.getElem?_cons_succ]; rfl)
                        case yp2q7 => exact Or.inr ⟨by rfl, rfl⟩
                        simp only [Act.put, List.setIfInBounds_toArray, List.set_cons_zero, List.set_cons_succ]
                        refine wpAnyH_take (i := 8) (oi := ?op2q8) (v := undef) ?hp2q8 (by kernel_rfl) (by kernel_rfl) (by kernel_rfl) (fun _ _ _ h => h) ?yp2q8 (by assumption) ?rp2q8
                        case hp2q8 => (simp only [List.getElem?_toArray, List.getElem?_cons_zero, List.getElem?_cons_succ]; rfl)
                        case yp2q8 => exact Or.inr ⟨by rfl, rfl⟩
                        simp only [Act.put, List.setIfInBounds_toArray, List.set_cons_zero, List.set_cons_succ]
                        refine wpAnyH_take (i := 9) (oi := ?op2q9) (v := undef) ?hp2q9 (by kernel_rfl) (by kernel_rfl) (by kernel_rfl) (fun _ _ _ h => h) ?yp2q9 (by assumption) ?rp2q9
                        case hp2q9 => (simp only [List.getElem?_toArray, List.getElem?_cons_zero, List.getElem?_cons_succ]; rfl)
                        case yp2q9 => exact Or.inr ⟨by rfl, rfl⟩
                        simp only [Act.put, List.setIfInBounds_toArray, List.set_cons_zero, List.set_cons_succ]
                        refine wpAnyH_take (i := 10) (oi := ?op2q10) (v := undef) ?hp2q10 (by kernel_rfl) (by kernel_rfl) (by kernel_rfl) (fun _ _ _ h => h) ?yp2q10 (by assumption) ?rp2q10
                        case hp2q10 => (simp only [List.getElem?_toArray, List.getElem?_cons_zero, List.getElem?_cons_succ]; rfl)
                        case yp2q10 => exact Or.inr ⟨by rfl, rfl⟩
                        simp only [Act.put, List.setIfInBounds_toArray, List.set_cons_zero, List.set_cons_succ]
                        refine wpAnyH_take (i := 11) (oi := ?op2q11) (v := undef) ?hp2q11 (by kernel_rfl) (by kernel_rfl) (by kernel_rfl) (fun _ _ _ h => h) ?yp2q11 (by assumption) ?rp2q11
                        case hp2q11 => (simp only [List.getElem?_toArray, List.getElem?_cons_zero, List.getElem?_cons_succ]; rfl)
                        case yp2q11 => exact Or.inr ⟨by rfl, rfl⟩
                        simp only [Act.put, List.setIfInBounds_toArray, List.set_cons_zero, List.set_cons_succ]
                        refine wpAnyH_take (i := 12) (oi := ?op2q12) (v := .bool false) ?hp2q12 (by kernel_rfl) (by kernel_rfl) (by kernel_rfl) (fun _ _ _ h => h) ?yp2q12 (by assumption) ?rp2q12
                        case hp2q12 => (simp only [List.getElem?_toArray, List.getElem?_cons_zero, List.getElem?_cons_succ]; rfl)
                        case yp2q12 => exact Or.inl ⟨by rfl, by (intro W hSw; go_simp)⟩
                        simp only [Act.put, List.setIfInBounds_toArray, List.set_cons_zero, List.set_cons_succ]
                        refine wpAnyH_done (by kernel_rfl) ?_ _
                        refine NoPanic.normal ?_
                        clear hHeld
                        go_wp2
                        go_roundw
                        case rel => exact ⟨m + 1, j + 1, by go_num, by go_num, by omega, by omega, (by first | exact o5 | exact o5.dr | exact o5.dn _), Lib.hid (by rw [cnt_next HY.out, if_pos HSM.out, ← HC.out])⟩
                        case measure => simp [intOf]; omega
                      | false =>
                        obtain rfl : x = c := last_eq HRS.out.1 HX.out HB2.out.symm x (by rw [HRS.out.2]; exact List.mem_of_getElem? HY.out) HSM.out
                        have HE := Lib.hid fun W => neqCell x W
                        obtain ⟨-, x0, x1, x2, x3, x4, x5, y0, y1, y2, y3, y4, y5⟩ := hHeld
                        go_upto_region 26 with (fail)
                        have he := HE.out
                        go_quiet (fail)
                        clear x0 x1 x2 x3 x4 x5 y0 y1 y2 y3 y4 y5 he
                        go_wp2
                        go_roundw
                        case rel => exact ⟨m + 1, j + 1, by go_num, by go_num, by omega, by omega, (by first | exact o5 | exact o5.dr | exact o5.dn _), Lib.hid (by rw [cnt_next HY.out, if_pos HSM.out, ← HC.out])⟩
                        case measure => simp [intOf]; omega
                  · obtain rfl : j = cs.length := by omega
                    obtain rfl : m = 1 := by
                      rw [HC.out, List.take_length]
                      have h5 := last_cnt HRS.out.1 HX.out
                      rwa [HRS.out.2] at h5
                    cases lb with
                    | true =>
                      go_wp2
                      go_roundw
                      case rel => exact ⟨n, i + 1, rfl, by go_num, by omega, by omega, o1, Lib.hid (by rw [cntL_next HX.out HB2.out, ← HN.out]; rfl)⟩
                      case measure => simp [intOf]; omega
                    | false =>
                      go_wp2
                      go_roundw
                      case rel => exact ⟨n + 1, i + 1, by go_num, by go_num, by omega, by omega, o1, Lib.hid (by rw [cntL_next HX.out HB2.out, ← HN.out]; rfl)⟩
                      case measure => simp [intOf]; omega
          · obtain rfl : i = l.length := by omega
            obtain rfl : n = cs.length := by rw [HN.out, last_total HRS.out.1, ← HRS.out.2, List.length_map]
            go_wp2
            go_ret
            exact ⟨rfl, o4.tr o1⟩

set_option maxRecDepth 100000 in
theorem mergeLast_lifted (os : Os) (started : os.Started) (H : Type) (enc : TypeId × Value → H) :
    ReturnsInHanded {} Try.checked os 6 .any (Rows.mergeLastSpec.pre6 enc Try.prog Try.f6 Rows.mergeLastRow.domain false) (Rows.mergeLastSpec.post enc Try.prog Try.f6 false true false false) := by
  refine returnsInHanded_of_change_sized (C := Try.checked) Try.own started (by kernel_rfl) Try.func6
    (ChangeSpec.witness6 (enc := enc) (C := Try.checked) false ⟨#[], #[.slice none 0 0, .int .u8 0, .int .u8 0], []⟩ 8 (by kernel_rfl) (by kernel_rfl) (by kernel_rfl) (by kernel_rfl)) ?_
  intro W base args ds gs before hval0 hW hcnd hsz0 _
  have hval : ∀ (j : Nat) t v, Try.f6.params[j]? = some t → args[j]? = some v → Value.okWide Try.prog W .any base t v := hval0
  have hW' := hW
  obtain ⟨p, q, hA0, hV, rfl, hfz, hnd⟩ := hW
  have hA : DataW.TrodAll enc Try.prog W 0 (fun _ => true) true Try.f6.params.toList args.toList ds p := hA0
  have hsz : (DataW.weightsEach Try.prog (Try.f6.params.toList ++ Rows.mergeLastSpec.plain.varTypes Try.prog) (ds ++ gs)).all (· ≤ reachBytes) = true := hsz0
  rw [Try.params6] at hA hval hsz
  obtain ⟨v0, v1, v2, d0, d1, d2, p0, p1, p2, rfl, rfl, rfl, h0, h1, h2⟩ := trodAll_three hA
  obtain ⟨rfl, rfl⟩ := trodVars_none hV
  have hlt : ∀ x ∈ p0 ++ (p1 ++ (p2)), x.block < W.heap.size := fun x hx => hW'.lt x (by simpa using hx)
  have k0 := h0
  have k1 := h1
  have k2 := h2
  obtain ⟨a0, o0, m0, -⟩ := open_cels (hval 0 22 v0 rfl rfl) h0
  obtain ⟨a1, rfl, o1⟩ := open_u8 (hval 1 5 v1 rfl rfl) h1
  obtain ⟨a2, rfl, o2⟩ := open_u8 (hval 2 5 v2 rfl rfl) h2
  clear hA0 hval0 hsz0
  refine (law_last v0 a0 a1 a2 W o0 m0 o1 o2).mono fun e W' ⟨he, hb⟩ => ?_
  subst he
  refine ⟨_, rfl, _, _, _, [], p0 ++ (p1 ++ (p2)), [], hW', trodAll_mk1 (shut_bool Try.underlying4 _), ?_, rfl, hb.frame _, fun h => by cases h⟩
  have r0 := Below.trod Try.laidOut (by kernel_rfl) (of_decide_eq_true (by kernel_rfl)) k0 hb (fun x hx => hlt x (by simp [hx]))
  have r1 := Below.trod Try.laidOut (by kernel_rfl) (of_decide_eq_true (by kernel_rfl)) k1 hb (fun x hx => hlt x (by simp [hx]))
  have r2 := Below.trod Try.laidOut (by kernel_rfl) (of_decide_eq_true (by kernel_rfl)) k2 hb (fun x hx => hlt x (by simp [hx]))
  exact trodAll_mk3 r0 r1 r2

theorem mergeLast_holds : Rows.MergeLastSaid :=
  OpenClaim.holds_of_wide 6 Try.f6 rfl rfl rfl rfl rfl rfl rfl ⟨rfl, rfl, rfl, rfl, rfl⟩ rfl rfl rfl rfl rfl (by kernel_rfl) Try.func6 (by kernel_rfl)
    (of_decide_eq_true (by kernel_rfl)) (by unfold Func.isWrapper; first | (rw [if_pos (by decide +kernel)]; kernel_rfl) | (rw [if_neg (by decide +kernel)]; exact ⟨rfl, rfl⟩))
    (fun os started H enc _ => mergeLast_lifted os started H enc)
#print axioms mergeLast_holds
end Go.Proofs.Ytbccpplpfcfboaa
