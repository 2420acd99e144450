/-
  The reference's FromKey answers what the code's does. Condition: the text has at most 1000000 bytes.
-/
import Derived.Test.YtlmlopdakbbbjaaGreatDoorRef
namespace Go.Proofs.YtlmlopdakbbbjaaGreatDoor
open Go.RowKit

theorem cutM_form_aux : ∀ (n : Nat) (s : List UInt8), s.length ≤ n → ∀ x, cutM s = some x → s = marks x.1 ++ 0 :: 1 :: x.2 := by
  intro n
  induction n with
  | zero =>
    intro s hs x h
    have : s = [] := List.eq_nil_of_length_eq_zero (by omega)
    subst this
    rw [cutM.eq_def] at h; cases h
  | succ n ih =>
    intro s hs x h
    cases s with
    | nil => rw [cutM.eq_def] at h; cases h
    | cons b t =>
      by_cases hb : b = 0
      · subst hb
        cases t with
        | nil => rw [cutM_one _ (by simp)] at h; cases h
        | cons m u =>
          by_cases h1 : m = 255
          · subst h1
            rw [cutM.eq_def] at h
            simp only [if_true] at h
            cases hu : cutM u with
            | none => rw [hu] at h; cases h
            | some y =>
              rw [hu] at h
              have := ih u (by simp at hs; omega) y hu
              simp only [Option.map_some, Option.some.injEq] at h
              subst h
              rw [marks_cons]
              simp only [mark1, if_true, List.cons_append, List.nil_append]
              rw [← this]
          · by_cases h2 : m = 1
            · subst h2
              rw [cutM_end] at h
              injection h with h
              subst h
              rfl
            · rw [cutM_bad _ _ h1 h2] at h; cases h
      · rw [cutM.eq_def] at h
        simp only [if_neg hb] at h
        cases hu : cutM t with
        | none => rw [hu] at h; cases h
        | some y =>
          rw [hu] at h
          have := ih t (by simp at hs; omega) y hu
          simp only [Option.map_some, Option.some.injEq] at h
          subst h
          rw [marks_cons]
          simp only [mark1, if_neg hb, List.cons_append, List.nil_append]
          rw [← this]
theorem cutM_form {s : List UInt8} {x : List UInt8 × List UInt8} (h : cutM s = some x) : s = marks x.1 ++ 0 :: 1 :: x.2 := cutM_form_aux _ s (Nat.le_refl _) x h
theorem cutM_drop {s : List UInt8} {x : List UInt8 × List UInt8} (h : cutM s = some x) : s.drop (s.length - x.2.length) = x.2 := by
  have hf := cutM_form h
  have e : s = (marks x.1 ++ [0, 1]) ++ x.2 := by rw [hf]; simp
  have hl : s.length - x.2.length = (marks x.1 ++ [0, 1]).length := by rw [e]; simp; omega
  rw [hl]
  conv => lhs; rw [e]
  exact List.drop_left

theorem high8_highV (l : List UInt8) (h : l.length = 8) : high8 (highV l) = l := by
  match l, h with
  | [b0, b1, b2, b3, b4, b5, b6, b7], _ =>
    have h0 := b0.toNat_lt
    have h1 := b1.toNat_lt
    have h2 := b2.toNat_lt
    have h3 := b3.toNat_lt
    have h4 := b4.toNat_lt
    have h5 := b5.toNat_lt
    have h6 := b6.toNat_lt
    have h7 := b7.toNat_lt
    simp only [high8, highV, List.foldl_cons, List.foldl_nil, List.cons.injEq, and_true]
    refine ⟨?_, ?_, ?_, ?_, ?_, ?_, ?_, ?_⟩ <;> (apply UInt8.toNat_inj.1; rw [UInt8.toNat_ofNat']; omega)

/-- The cell that a key's parts tell. -/
def told (x y : List UInt8 × List UInt8) : Cel := ⟨x.1, y.1, neg64 (highV (y.2.take 8)), neg64 (highV (y.2.drop 8)), false, []⟩
theorem told_ok (x y : List UInt8 × List UInt8) : (told x y).ok := ⟨neg_lt _, neg_lt _⟩
theorem key_told {s : List UInt8} {x y : List UInt8 × List UInt8} (h1 : cutM s = some x) (h2 : cutM x.2 = some y) (h3 : y.2.length = 16) : key (told x y) = s := by
  have e1 := cutM_form h1
  have e2 := cutM_form h2
  have t1 : (y.2.take 8).length = 8 := by simp; omega
  have t2 : (y.2.drop 8).length = 8 := by simp; omega
  have k1 := highV_lt8 (y.2.take 8) (by omega)
  have k2 := highV_lt8 (y.2.drop 8) (by omega)
  unfold key told
  simp only []
  rw [neg_neg _ k1, neg_neg _ k2, high8_highV _ t1, high8_highV _ t2, e1, e2]
  simp
theorem rkey_told {s : List UInt8} {x y : List UInt8 × List UInt8} (h1 : cutM s = some x) (h2 : cutM x.2 = some y) (h3 : y.2.length = 16) : (rkeyB (told x y) == s) = mayB (told x y) := by
  unfold rkeyB
  cases hm : mayB (told x y)
  · simp only [Bool.false_eq_true, if_false]
    rw [beq_eq_false_iff_ne]
    rintro rfl
    have := cutM_le h1
    simp at this
  · simp only [if_true]
    rw [beq_iff_eq]
    exact key_told h1 h2 h3

theorem fromK_told {s : List UInt8} {x y : List UInt8 × List UInt8} (h1 : cutM s = some x) (h2 : cutM x.2 = some y) (h3 : y.2.length = 16) : fromK s = if mayB (told x y) = true then some (told x y) else none := by
  unfold fromK
  rw [h1]
  show (match cutM x.2 with | none => none | some y => if y.2.length = 16 then (if mayB (told x y) = true then some (told x y) else none) else none) = _
  rw [h2]
  show (if y.2.length = 16 then (if mayB (told x y) = true then some (told x y) else none) else none) = _
  rw [if_pos h3]

/-- The frame of the reference's FromKey: the result, and the cell. -/
structure Sr (w W : World) (c : Cel) : Prop where
  rs : Bk W w.heap.size 34 zeroCell
  cl : Bk W (w.heap.size + 1) 34 (cells c)
  od : Old w W
theorem Sr.old {w W W' : World} {c : Cel} (h : Sr w W c) (k : Old W W') : Sr w W' c := ⟨h.rs.old k, h.cl.old k, h.od.tr k⟩
theorem Sr.set_ {w W : World} {c c' : Cel} (h : Sr w W c) (o : Nat) (u : Value) (hc : (cells c).setIfInBounds o u = cells c') : Sr w (W.setCell ⟨w.heap.size + 1, o, none⟩ u) c' :=
  ⟨h.rs.far (by simp) _, by rw [← hc]; exact h.cl.set_ o u, h.od.st (by simp) _⟩
def zeroC : Cel := ⟨[], [], 0, 0, false, []⟩

set_option maxRecDepth 100000 in
set_option maxHeartbeats 4000000 in
theorem rfromKey_any (s : List UInt8) (w : World) (hs : s.length ≤ 1000000) :
    Calls Tryz.prog 73 #[.string (B s)] w fun e w' => e = .returned (fromV s) ∧ Old w w' := by
  go_enter Tryz.func73, Tryz.ntmps73
  go_wp2_with fail
  have h0 : Sr w ((w.alloc (.cells zeroCell 34)).alloc (.cells zeroCell 34)) zeroC :=
    ⟨(new_bk _ _ _).alloc _, new_bk1 _ _ _ _, ((Old.re _).al _).al _⟩
  refine (rpart_any s _ hs).mono ?_
  rintro r w1 ⟨rfl, hb⟩
  have h1 := h0.old hb
  clear h0 hb
  cases hc : cutM s with
  | none =>
    have HV := Lib.hid (show fromV s = .tuple #[.agg zeroCell, .int .i64 1] by simp [fromV, fromK, hc])
    rw [show partV s = .tuple #[.string ⟨#[]⟩, .int .i64 0] by simp [partV, hc]]
    clear hc
    obtain ⟨f0, f1, f2, f3, f4, f5⟩ := Sc.rz_ (g := w.heap.size + 1) h1.cl
    obtain ⟨r0, r1, r2, r3, r4, r5⟩ := Sc.rz_ h1.rs
    have rf := h1.rs.fr
    go_wp2
    have hB := put6 h1.rs (.string ⟨#[]⟩) (.string ⟨#[]⟩) (.int .u64 0) (.int .u64 0) (.bool false) (.string ⟨#[]⟩)
    have hO := old6 h1.od (.string ⟨#[]⟩) (.string ⟨#[]⟩) (.int .u64 0) (.int .u64 0) (.bool false) (.string ⟨#[]⟩)
    rw [HV.out]
    generalize ((((((w1.setCell ⟨w.heap.size, 0, none⟩ (.string ⟨#[]⟩)).setCell ⟨w.heap.size, 1, none⟩ (.string ⟨#[]⟩)).setCell ⟨w.heap.size, 2, none⟩ (.int .u64 0)).setCell ⟨w.heap.size, 3, none⟩ (.int .u64 0)).setCell ⟨w.heap.size, 4, none⟩ (.bool false)).setCell ⟨w.heap.size, 5, none⟩ (.string ⟨#[]⟩)) = w15 at *
    obtain ⟨z0, z1, z2, z3, z4, z5⟩ := Bk.six hB
    exact bodyPost_ret (v := .tuple #[.agg zeroCell, .int .i64 1]) (by simp [results, Tryz.results73, go_sem, z0, z1, z2, z3, z4, z5]) rfl ⟨rfl, hO⟩
  | some x =>
    have hx := cutM_le hc
    rw [show partV s = .tuple #[.string (B x.1), .int .i64 ((s.length - x.2.length : Nat) : Int)] by simp [partV, hc]]
    have HC := Lib.hid hc
    have HX := Lib.hid (cutM_drop hc)
    clear hc
    have hn1 : 2 ≤ s.length - x.2.length := by omega
    have hn2 : s.length - x.2.length ≤ s.length := by omega
    have hnx : s.length - x.2.length + x.2.length ≤ s.length := by omega
    have hnx2 : s.length ≤ s.length - x.2.length + x.2.length := by omega
    generalize s.length - x.2.length = n at *
    have hI0 : ((n : Int) == 0) = false := by rw [beq_eq_false_iff_ne]; omega
    go_wp2_with fail
    rw [ext_drop _ _ _ (Nat.le_refl _), HX.out]
    refine (rpart_any x.2 _ (by omega)).mono ?_
    rintro r w2 ⟨rfl, hb⟩
    have h2 := h1.old hb
    clear h1 hb
    cases hc2 : cutM x.2 with
    | none =>
      have HV := Lib.hid (show fromV s = .tuple #[.agg zeroCell, .int .i64 1] by simp [fromV, fromK, HC.out, hc2])
      rw [show partV x.2 = .tuple #[.string ⟨#[]⟩, .int .i64 0] by simp [partV, hc2]]
      clear hc2
      obtain ⟨f0, f1, f2, f3, f4, f5⟩ := Sc.rz_ (g := w.heap.size + 1) h2.cl
      obtain ⟨r0, r1, r2, r3, r4, r5⟩ := Sc.rz_ h2.rs
      have rf := h2.rs.fr
      go_wp2
      have hB := put6 h2.rs (.string ⟨#[]⟩) (.string ⟨#[]⟩) (.int .u64 0) (.int .u64 0) (.bool false) (.string ⟨#[]⟩)
      have hO := old6 h2.od (.string ⟨#[]⟩) (.string ⟨#[]⟩) (.int .u64 0) (.int .u64 0) (.bool false) (.string ⟨#[]⟩)
      rw [HV.out]
      generalize ((((((w2.setCell ⟨w.heap.size, 0, none⟩ (.string ⟨#[]⟩)).setCell ⟨w.heap.size, 1, none⟩ (.string ⟨#[]⟩)).setCell ⟨w.heap.size, 2, none⟩ (.int .u64 0)).setCell ⟨w.heap.size, 3, none⟩ (.int .u64 0)).setCell ⟨w.heap.size, 4, none⟩ (.bool false)).setCell ⟨w.heap.size, 5, none⟩ (.string ⟨#[]⟩)) = w15 at *
      obtain ⟨z0, z1, z2, z3, z4, z5⟩ := Bk.six hB
      exact bodyPost_ret (v := .tuple #[.agg zeroCell, .int .i64 1]) (by simp [results, Tryz.results73, go_sem, z0, z1, z2, z3, z4, z5]) rfl ⟨rfl, hO⟩
    | some y =>
      have hy := cutM_le hc2
      rw [show partV x.2 = .tuple #[.string (B y.1), .int .i64 ((x.2.length - y.2.length : Nat) : Int)] by simp [partV, hc2]]
      have HC2 := Lib.hid hc2
      have HY := Lib.hid (cutM_drop hc2)
      clear hc2
      have hm1 : 2 ≤ x.2.length - y.2.length := by omega
      have hmy : x.2.length - y.2.length + y.2.length ≤ x.2.length := by omega
      have hmy2 : x.2.length ≤ x.2.length - y.2.length + y.2.length := by omega
      generalize x.2.length - y.2.length = m at *
      have hI1 : ((m : Int) == 0) = false := by rw [beq_eq_false_iff_ne]; omega
      by_cases h16 : y.2.length = 16
      · have hI2 : ((s.length : Int) != (n : Int) + (m : Int) + 16) = false := by rw [bne_eq_false_iff_eq]; omega
        have hle : n + m + 16 ≤ s.length := by omega
        have HD1 := Lib.hid (show s.drop (n + m) = y.2 by rw [← List.drop_drop, HX.out, HY.out])
        have HD2 := Lib.hid (show s.drop (n + m + 8) = y.2.drop 8 by rw [← List.drop_drop, HD1.out])
        have H16 := Lib.hid h16
        have hy16 : 16 ≤ y.2.length := by omega
        have hy17 : y.2.length ≤ 16 := by omega
        clear h16
        obtain ⟨f0, f1, f2, f3, f4, f5⟩ := Sc.rz_ (g := w.heap.size + 1) h2.cl
        have ff := h2.cl.fr
        go_upto_region 10 with (fail)
        have h3 : Sr w ((w2.setCell ⟨w.heap.size + 1, 0, none⟩ (.string (B x.1))).setCell ⟨w.heap.size + 1, 1, none⟩ (.string (B y.1))) ⟨x.1, y.1, 0, 0, false, []⟩ :=
          (h2.set_ (c' := ⟨x.1, [], 0, 0, false, []⟩) 0 (.string (B x.1)) rfl).set_ 1 (.string (B y.1)) rfl
        generalize (w2.setCell ⟨w.heap.size + 1, 0, none⟩ (.string (B x.1))).setCell ⟨w.heap.size + 1, 1, none⟩ (.string (B y.1)) = w3 at *
        clear h2 f0 f1 f2 f3 f4 f5 ff hI0 hI1 hI2
        have k1 := highV_lt8 (y.2.take 8) (by simp; omega)
        have k2 := highV_lt8 (y.2.drop 8) (by simp; omega)
        have e1 : IntKind.u64.wrap (18446744073709551615 - ((highV (y.2.take 8) : Nat) : Int)) = ((neg64 (highV (y.2.take 8)) : Nat) : Int) := by unfold neg64; rw [IntKind.wrap_u64]; omega
        have e2 : IntKind.u64.wrap (18446744073709551615 - ((highV (y.2.drop 8) : Nat) : Int)) = ((neg64 (highV (y.2.drop 8)) : Nat) : Int) := by unfold neg64; rw [IntKind.wrap_u64]; omega
        obtain ⟨f0, f1, f2, f3, f4, f5⟩ := h3.cl.six
        have ff := h3.cl.fr
        go_wp2_with fail
        rw [ext_drop _ _ _ (Nat.le_refl _), HD1.out]
        refine (rvalue_high y.2 _ (by omega) (by omega)).mono ?_
        rintro r w4 ⟨rfl, rfl⟩
        go_upto_region 11 with (fail)
        have h5 := h3.set_ (c' := ⟨x.1, y.1, neg64 (highV (y.2.take 8)), 0, false, []⟩) 2 (.int .u64 (neg64 (highV (y.2.take 8)) : Nat)) rfl
        generalize w3.setCell ⟨w.heap.size + 1, 2, none⟩ (.int .u64 (neg64 (highV (y.2.take 8)) : Nat)) = w5 at *
        clear h3 f0 f1 f2 f3 f4 f5 ff
        obtain ⟨f0, f1, f2, f3, f4, f5⟩ := h5.cl.six
        have ff := h5.cl.fr
        go_wp2_with fail
        rw [ext_drop _ _ _ (Nat.le_refl _), HD2.out]
        refine (rvalue_high (y.2.drop 8) _ (by simp; omega) (by simp; omega)).mono ?_
        rintro r w6 ⟨rfl, rfl⟩
        rw [show (y.2.drop 8).take 8 = y.2.drop 8 from List.take_of_length_le (by simp; omega)]
        go_upto_region 12 with (fail)
        have h7 : Sr w (w5.setCell ⟨w.heap.size + 1, 3, none⟩ (.int .u64 (neg64 (highV (y.2.drop 8)) : Nat))) (told x y) := h5.set_ 3 (.int .u64 (neg64 (highV (y.2.drop 8)) : Nat)) rfl
        generalize w5.setCell ⟨w.heap.size + 1, 3, none⟩ (.int .u64 (neg64 (highV (y.2.drop 8)) : Nat)) = w7 at *
        clear h5 f0 f1 f2 f3 f4 f5 ff e1 e2
        have hkt := rkey_told HC.out HC2.out H16.out
        have hkk := told_ok x y
        have HF := Lib.hid (fromK_told HC.out HC2.out H16.out)
        generalize told x y = c at *
        obtain ⟨f0, f1, f2, f3, f4, f5⟩ := h7.cl.six
        go_wp2_with fail
        refine (rkey_any c _ hkk).mono ?_
        rintro r w8 ⟨rfl, hb⟩
        have h8 := h7.old hb
        clear h7 hb f0 f1 f2 f3 f4 f5
        generalize rkeyB c = kk at *
        obtain ⟨f0, f1, f2, f3, f4, f5⟩ := h8.cl.six
        obtain ⟨r0, r1, r2, r3, r4, r5⟩ := Sc.rz_ h8.rs
        have rf := h8.rs.fr
        cases hm : mayB c
        · rw [hm] at hkt
          have HV := Lib.hid (show fromV s = .tuple #[.agg zeroCell, .int .i64 1] by simp [fromV, HF.out, hm])
          have hne : (kk != s) = true := by rw [bne, hkt]; rfl
          go_wp2
          have hB := put6 h8.rs (.string ⟨#[]⟩) (.string ⟨#[]⟩) (.int .u64 0) (.int .u64 0) (.bool false) (.string ⟨#[]⟩)
          have hO := old6 h8.od (.string ⟨#[]⟩) (.string ⟨#[]⟩) (.int .u64 0) (.int .u64 0) (.bool false) (.string ⟨#[]⟩)
          rw [HV.out]
          generalize ((((((w8.setCell ⟨w.heap.size, 0, none⟩ (.string ⟨#[]⟩)).setCell ⟨w.heap.size, 1, none⟩ (.string ⟨#[]⟩)).setCell ⟨w.heap.size, 2, none⟩ (.int .u64 0)).setCell ⟨w.heap.size, 3, none⟩ (.int .u64 0)).setCell ⟨w.heap.size, 4, none⟩ (.bool false)).setCell ⟨w.heap.size, 5, none⟩ (.string ⟨#[]⟩)) = w15 at *
          obtain ⟨z0, z1, z2, z3, z4, z5⟩ := Bk.six hB
          exact bodyPost_ret (v := .tuple #[.agg zeroCell, .int .i64 1]) (by simp [results, Tryz.results73, go_sem, z0, z1, z2, z3, z4, z5]) rfl ⟨rfl, hO⟩
        · rw [hm] at hkt
          have HV := Lib.hid (show fromV s = .tuple #[cv c, .int .i64 0] by simp [fromV, HF.out, hm])
          have hne : (kk != s) = false := by rw [bne, hkt]; rfl
          go_wp2
          have hB := put6 h8.rs (.string (B c.row)) (.string (B c.col)) (.int .u64 c.ts) (.int .u64 c.seq) (.bool c.del) (.string (B c.val))
          have hO := old6 h8.od (.string (B c.row)) (.string (B c.col)) (.int .u64 c.ts) (.int .u64 c.seq) (.bool c.del) (.string (B c.val))
          rw [HV.out]
          generalize ((((((w8.setCell ⟨w.heap.size, 0, none⟩ (.string (B c.row))).setCell ⟨w.heap.size, 1, none⟩ (.string (B c.col))).setCell ⟨w.heap.size, 2, none⟩ (.int .u64 c.ts)).setCell ⟨w.heap.size, 3, none⟩ (.int .u64 c.seq)).setCell ⟨w.heap.size, 4, none⟩ (.bool c.del)).setCell ⟨w.heap.size, 5, none⟩ (.string (B c.val))) = w15 at *
          obtain ⟨z0, z1, z2, z3, z4, z5⟩ := Bk.six hB
          exact bodyPost_ret (v := .tuple #[cv c, .int .i64 0]) (by simp [results, Tryz.results73, go_sem, z0, z1, z2, z3, z4, z5]) rfl ⟨rfl, hO⟩
      · have hI2 : ((s.length : Int) != (n : Int) + (m : Int) + 16) = true := by rw [bne_iff_ne]; omega
        have HV := Lib.hid (show fromV s = .tuple #[.agg zeroCell, .int .i64 1] by simp [fromV, fromK, HC.out, HC2.out, h16])
        clear h16
        obtain ⟨f0, f1, f2, f3, f4, f5⟩ := Sc.rz_ (g := w.heap.size + 1) h2.cl
        obtain ⟨r0, r1, r2, r3, r4, r5⟩ := Sc.rz_ h2.rs
        have rf := h2.rs.fr
        go_wp2
        have hB := put6 h2.rs (.string ⟨#[]⟩) (.string ⟨#[]⟩) (.int .u64 0) (.int .u64 0) (.bool false) (.string ⟨#[]⟩)
        have hO := old6 h2.od (.string ⟨#[]⟩) (.string ⟨#[]⟩) (.int .u64 0) (.int .u64 0) (.bool false) (.string ⟨#[]⟩)
        rw [HV.out]
        generalize ((((((w2.setCell ⟨w.heap.size, 0, none⟩ (.string ⟨#[]⟩)).setCell ⟨w.heap.size, 1, none⟩ (.string ⟨#[]⟩)).setCell ⟨w.heap.size, 2, none⟩ (.int .u64 0)).setCell ⟨w.heap.size, 3, none⟩ (.int .u64 0)).setCell ⟨w.heap.size, 4, none⟩ (.bool false)).setCell ⟨w.heap.size, 5, none⟩ (.string ⟨#[]⟩)) = w15 at *
        obtain ⟨z0, z1, z2, z3, z4, z5⟩ := Bk.six hB
        exact bodyPost_ret (v := .tuple #[.agg zeroCell, .int .i64 1]) (by simp [results, Tryz.results73, go_sem, z0, z1, z2, z3, z4, z5]) rfl ⟨rfl, hO⟩
end Go.Proofs.YtlmlopdakbbbjaaGreatDoor
