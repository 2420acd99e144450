/-
  Reading a name of a key: cutMarked. Condition: the text has at most 1000000 bytes.
-/
import Derived.Test.YtlmlopdakbbbjaaGreatDoorBk
namespace Go.Proofs.YtlmlopdakbbbjaaGreatDoor
open Go.RowKit

/-- A name at the beginning of a key, and what is behind it. -/
def cutM : List UInt8 → Option (List UInt8 × List UInt8)
  | [] => none
  | b :: t => if b = 0 then (match t with
      | [] => none
      | m :: u => if m = 255 then (cutM u).map (fun x => (0 :: x.1, x.2)) else if m = 1 then some ([], u) else none)
    else (cutM t).map (fun x => (b :: x.1, x.2))
def cutV (s : List UInt8) : Value := match cutM s with
  | some x => .tuple #[.string (B x.1), .string (B x.2), .bool true]
  | none => .tuple #[.string ⟨#[]⟩, .string ⟨#[]⟩, .bool false]

/-- r was read already. -/
def after (r : List UInt8) (o : Option (List UInt8 × List UInt8)) : Option (List UInt8 × List UInt8) := o.map fun x => (r ++ x.1, x.2)
theorem after_nil (o : Option (List UInt8 × List UInt8)) : after [] o = o := by cases o <;> simp [after]
theorem after_byte (r : List UInt8) (b : UInt8) (t : List UInt8) (h : b ≠ 0) : after r (cutM (b :: t)) = after (r ++ [b]) (cutM t) := by
  rw [cutM.eq_def]; simp only [if_neg h]
  cases cutM t <;> simp [after]
theorem after_zero (r t : List UInt8) : after r (cutM (0 :: 255 :: t)) = after (r ++ [0]) (cutM t) := by
  rw [cutM.eq_def]; simp only [if_true]
  cases cutM t <;> simp [after]
theorem cutM_end (t : List UInt8) : cutM (0 :: 1 :: t) = some ([], t) := by
  rw [cutM.eq_def]; simp
theorem cutM_bad (m : UInt8) (t : List UInt8) (h1 : m ≠ 255) (h2 : m ≠ 1) : cutM (0 :: m :: t) = none := by
  rw [cutM.eq_def]; simp [h1, h2]
theorem cutM_one (l : List UInt8) (h : l.length ≤ 1) : cutM l = none := by
  match l, h with
  | [], _ => rw [cutM.eq_def]
  | [b], _ =>
    rw [cutM.eq_def]
    by_cases hb : b = 0
    · simp [hb]
    · simp [hb]; rw [cutM.eq_def]

set_option maxHeartbeats 4000000 in
theorem cutMarked_any (s : List UInt8) (w : World) (hs : s.length ≤ 1000000) :
    Calls Tryz.prog 117 #[.string (B s)] w fun e w' => e = .returned (cutV s) ∧ Old w w' := by
  go_enter Tryz.func117, Tryz.ntmps117
  go_wp2_with fail
  go_loopw [5, 6] (fun v i wr => ∃ (k : Nat) (r : List UInt8), k ≤ s.length ∧ r.length ≤ k ∧ i = .int .i64 k ∧ Own wr w.heap.size v r ∧ Old w wr ∧ Hid (cutM s = after r (cutM (s.drop k)))) (fun _ i _ => s.length - (intOf i).toNat)
  case atStart => exact ⟨0, [], Nat.zero_le _, Nat.le_refl _, rfl, Own.nil _ _, Old.re _, Lib.hid (by rw [after_nil]; rfl)⟩
  case round =>
    obtain ⟨k, r, hk, hr, rfl, ho, hw, HC⟩ := hrel
    have hsz := hw.size
    by_cases h1 : k + 1 < s.length
    · have hd : s.drop k = s[k] :: s[k + 1] :: s.drop (k + 2) := by
        rw [List.drop_eq_getElem_cons (by omega), List.drop_eq_getElem_cons (by omega)]
      have hd1 : s.drop (k + 1) = s[k + 1] :: s.drop (k + 2) := by rw [List.drop_eq_getElem_cons (by omega)]
      have HD := Lib.hid hd
      have HD1 := Lib.hid hd1
      clear hd hd1
      have i0 : (B s)[k]'(by simp [ByteArray.size]; omega) = s[k] := rfl
      have i1 : (B s)[k + 1]'(by simp [ByteArray.size]; omega) = s[k + 1] := rfl
      generalize hb0 : s[k] = b0 at *
      generalize hb1 : s[k + 1] = b1 at *
      clear hb0 hb1
      have hI : decide ((k : Int) + 1 < s.length) = true := by simp; omega
      by_cases hz : b0 = 0
      · subst hz
        by_cases h255 : b1 = 255
        · subst h255
          go_wp2_with (at_builtin; refine wp_app rfl (.tmp 31) (.tmp 32) rfl rfl (ho.alloc _) [0] wr.heap.size 1 1 rfl rfl (new_row _ _ _) (by simp; omega) (by simp; omega) ?_; intro v1 w1 ho1 hbl1 hb1)
          go_roundw
          case rel => exact ⟨k + 2, r ++ [0], by omega, by simp; omega, by go_num, ho1, (hw.al _).trans hbl1, Lib.hid (by rw [HC.out, HD.out, after_zero])⟩
          case measure => simp [intOf]; omega
        · have h2 : ((b1.toNat : Int) == 255) = false := by
            have : b1.toNat ≠ 255 := fun e => h255 (UInt8.toNat_inj.1 e)
            rw [beq_eq_false_iff_ne]; omega
          by_cases h1b : b1 = 1
          · subst h1b
            have hcv := run_str ho
            have hcv2 := run_str ho.drew
            have HV := Lib.hid (show cutV s = .tuple #[.string (B r), .string (B (s.drop (k + 2))), .bool true] by
              unfold cutV; rw [HC.out, HD.out, cutM_end]; simp [after])
            go_wp2_with fail
            go_region
            go_wp2
            go_ret3
            refine ⟨?_, hw.dr⟩
            rw [HV.out, ext_drop _ _ _ (Nat.le_refl _)]
            rfl
          · have h3 : ((b1.toNat : Int) == 1) = false := by
              have : b1.toNat ≠ 1 := fun e => h1b (UInt8.toNat_inj.1 e)
              rw [beq_eq_false_iff_ne]; omega
            have HV := Lib.hid (show cutV s = .tuple #[.string ⟨#[]⟩, .string ⟨#[]⟩, .bool false] by
              unfold cutV; rw [HC.out, HD.out, cutM_bad _ _ h255 h1b]; rfl)
            go_wp2
            go_ret3
            exact ⟨by rw [HV.out]; rfl, hw⟩
      · have hz2 : ((b0.toNat : Int) != 0) = true := by
          rw [bne_iff_ne]; intro e
          exact hz (UInt8.toNat_inj.1 (by simpa using e))
        go_wp2_with (at_builtin; refine wp_app rfl (.tmp 18) (.tmp 22) rfl rfl (ho.alloc _) [b0] wr.heap.size 1 1 rfl rfl (new_row1 _ _ _ rfl) (by simp; omega) (by simp; omega) ?_; intro v1 w1 ho1 hbl1 hb1)
        go_roundw
        case rel => exact ⟨k + 1, r ++ [b0], by omega, by simp; omega, by go_num, ho1, (hw.al _).trans hbl1, Lib.hid (by rw [HC.out, HD.out, after_byte _ _ _ hz]; rw [HD1.out])⟩
        case measure => simp [intOf]; omega
    · have HV := Lib.hid (show cutV s = .tuple #[.string ⟨#[]⟩, .string ⟨#[]⟩, .bool false] by
        unfold cutV; rw [HC.out, cutM_one _ (by simp; omega)]; rfl)
      have hI : decide ((k : Int) + 1 < s.length) = false := by simp; omega
      go_wp2_with fail
      go_ret3
      exact ⟨by rw [HV.out]; rfl, hw⟩

theorem cutM_len : ∀ (n : Nat) (s : List UInt8), s.length ≤ n → ∀ x, cutM s = some x → x.1.length + x.2.length + 2 ≤ s.length := by
  intro n
  induction n with
  | zero =>
    intro s hs x h
    have : s = [] := List.eq_nil_of_length_eq_zero (by omega)
    subst this
    rw [cutM.eq_def] at h; cases h
  | succ n ih =>
    intro s hs x h
    cases s with
    | nil => rw [cutM.eq_def] at h; cases h
    | cons b t =>
      by_cases hb : b = 0
      · subst hb
        cases t with
        | nil => rw [cutM_one _ (by simp)] at h; cases h
        | cons m u =>
          by_cases h1 : m = 255
          · subst h1
            rw [cutM.eq_def] at h
            simp only [if_true] at h
            cases hu : cutM u with
            | none => rw [hu] at h; cases h
            | some y =>
              rw [hu] at h
              have := ih u (by simp at hs; omega) y hu
              simp only [Option.map_some, Option.some.injEq] at h
              subst h
              simp only [List.length_cons]
              omega
          · by_cases h2 : m = 1
            · subst h2
              rw [cutM_end] at h
              injection h with h
              subst h
              simp
            · rw [cutM_bad _ _ h1 h2] at h; cases h
      · rw [cutM.eq_def] at h
        simp only [if_neg hb] at h
        cases hu : cutM t with
        | none => rw [hu] at h; cases h
        | some y =>
          rw [hu] at h
          have := ih t (by simp at hs; omega) y hu
          simp only [Option.map_some, Option.some.injEq] at h
          subst h
          simp only [List.length_cons]
          omega
theorem cutM_le {s : List UInt8} {x : List UInt8 × List UInt8} (h : cutM s = some x) : x.1.length + x.2.length + 2 ≤ s.length := cutM_len _ s (Nat.le_refl _) x h

/-- Which cell a key is the key of. -/
def fromK (s : List UInt8) : Option Cel := match cutM s with
  | none => none
  | some x => match cutM x.2 with
    | none => none
    | some y => if y.2.length = 16 then
        (if mayB ⟨x.1, y.1, neg64 (highV (y.2.take 8)), neg64 (highV (y.2.drop 8)), false, []⟩ = true then some ⟨x.1, y.1, neg64 (highV (y.2.take 8)), neg64 (highV (y.2.drop 8)), false, []⟩ else none)
      else none
def fromV (s : List UInt8) : Value := match fromK s with
  | some c => .tuple #[cv c, .int .i64 0]
  | none => .tuple #[.agg zeroCell, .int .i64 1]

/-- The frame of FromKey: the result, and the names. -/
structure Sf (w W : World) (n0 n1 : List UInt8) : Prop where
  rs : Bk W w.heap.size 34 zeroCell
  nm : Bk W (w.heap.size + 1) 135 #[.string (B n0), .string (B n1)]
  od : Old w W
theorem Sf.old {w W W' : World} {n0 n1 : List UInt8} (h : Sf w W n0 n1) (k : Old W W') : Sf w W' n0 n1 := ⟨h.rs.old k, h.nm.old k, h.od.tr k⟩
theorem Sf.set0 {w W : World} {n0 n1 : List UInt8} (h : Sf w W n0 n1) (a : List UInt8) : Sf w (W.setCell ⟨w.heap.size + 1, 0, none⟩ (.string (B a))) a n1 :=
  ⟨h.rs.far (by simp) _, h.nm.set_ 0 _, h.od.st (by simp) _⟩
theorem Sf.set1 {w W : World} {n0 n1 : List UInt8} (h : Sf w W n0 n1) (a : List UInt8) : Sf w (W.setCell ⟨w.heap.size + 1, 1, none⟩ (.string (B a))) n0 a :=
  ⟨h.rs.far (by simp) _, h.nm.set_ 1 _, h.od.st (by simp) _⟩

theorem Sf.held {w W : World} {n0 n1 : List UInt8} (h : Sf w W n0 n1) : Sf w W n0 n1 ∧ W.cell? ⟨w.heap.size + 1, 0, none⟩ = some (.string (B n0)) ∧ W.cell? ⟨w.heap.size + 1, 1, none⟩ = some (.string (B n1)) := ⟨h, h.nm.cell 0, h.nm.cell 1⟩
theorem highV_lt8 (l : List UInt8) (h : l.length ≤ 8) : highV l < 18446744073709551616 := by
  have h1 := highV_lt l
  have h2 : 256 ^ l.length ≤ 256 ^ 8 := Nat.pow_le_pow_right (by omega) h
  omega
theorem highFirst_lo (l : List UInt8) (w : World) :
    Calls Tryz.prog 118 #[.string ((B l).extract 0 8)] w fun r w' => r = .returned (.int .u64 (highV (l.take 8))) ∧ w = w' := by
  rw [ext_take]
  exact highFirst_any _ w (by simp; omega)
theorem highFirst_hi (l : List UInt8) (h : l.length ≤ 16) (w : World) :
    Calls Tryz.prog 118 #[.string ((B l).extract 8 l.length)] w fun r w' => r = .returned (.int .u64 (highV (l.drop 8))) ∧ w = w' := by
  rw [ext_drop _ _ _ (Nat.le_refl _)]
  exact highFirst_any _ w (by simp; omega)

set_option maxHeartbeats 4000000 in
theorem fromKey_any (s : List UInt8) (w : World) (hs : s.length ≤ 1000000) :
    Calls Tryz.prog 116 #[.string (B s)] w fun e w' => e = .returned (fromV s) ∧ Old w w' := by
  go_enter Tryz.func116, Tryz.ntmps116
  go_wp2_with fail
  have h0 : Sf w ((w.alloc (.cells zeroCell 34)).alloc (.cells #[.string ⟨#[]⟩, .string ⟨#[]⟩] 135)) [] [] :=
    ⟨Bk.alloc (heap_alloc_new _ _) _, new_bk1 _ _ _ _, ((Old.re _).al _).al _⟩
  refine wp_loop_rounds 3 ?_
  rw [rounds_succ]
  go_wp2_with fail
  refine (cutMarked_any s _ hs).mono ?_
  rintro r w1 ⟨rfl, hb⟩
  have h1 := h0.old hb
  clear h0 hb
  cases hc : cutM s with
  | none =>
    have HV := Lib.hid (show fromV s = .tuple #[.agg zeroCell, .int .i64 1] by simp [fromV, fromK, hc])
    rw [show cutV s = .tuple #[.string ⟨#[]⟩, .string ⟨#[]⟩, .bool false] by simp [cutV, hc]]
    clear hc
    obtain ⟨r0, r1, r2, r3, r4, r5⟩ := Sc.rz_ h1.rs
    have rf := h1.rs.fr
    go_wp2
    have hB := put6 h1.rs (.string ⟨#[]⟩) (.string ⟨#[]⟩) (.int .u64 0) (.int .u64 0) (.bool false) (.string ⟨#[]⟩)
    have hO := old6 h1.od (.string ⟨#[]⟩) (.string ⟨#[]⟩) (.int .u64 0) (.int .u64 0) (.bool false) (.string ⟨#[]⟩)
    rw [HV.out]
    generalize ((((((w1.setCell ⟨w.heap.size, 0, none⟩ (.string ⟨#[]⟩)).setCell ⟨w.heap.size, 1, none⟩ (.string ⟨#[]⟩)).setCell ⟨w.heap.size, 2, none⟩ (.int .u64 0)).setCell ⟨w.heap.size, 3, none⟩ (.int .u64 0)).setCell ⟨w.heap.size, 4, none⟩ (.bool false)).setCell ⟨w.heap.size, 5, none⟩ (.string ⟨#[]⟩)) = w15 at *
    obtain ⟨z0, z1, z2, z3, z4, z5⟩ := Bk.six hB
    exact bodyPost_ret (v := .tuple #[.agg zeroCell, .int .i64 1]) (by simp [results, Tryz.results116, go_sem, z0, z1, z2, z3, z4, z5]) rfl ⟨rfl, hO⟩
  | some x =>
    have hx := cutM_le hc
    rw [show cutV s = .tuple #[.string (B x.1), .string (B x.2), .bool true] by simp [cutV, hc]]
    have HC := Lib.hid hc
    clear hc
    have k0 := h1.nm.cell 0
    have k0f := h1.nm.fr 0
    go_wp2
    have h2 := h1.set0 x.1
    generalize w1.setCell ⟨w.heap.size + 1, 0, none⟩ (.string (B x.1)) = w2 at *
    clear h1 k0 k0f
    rw [rounds_succ]
    go_wp2_with fail
    refine (cutMarked_any x.2 _ (by omega)).mono ?_
    rintro r w3 ⟨rfl, hb⟩
    have h3 := h2.old hb
    clear h2 hb
    cases hc2 : cutM x.2 with
    | none =>
      have HV := Lib.hid (show fromV s = .tuple #[.agg zeroCell, .int .i64 1] by simp [fromV, fromK, HC.out, hc2])
      rw [show cutV x.2 = .tuple #[.string ⟨#[]⟩, .string ⟨#[]⟩, .bool false] by simp [cutV, hc2]]
      clear hc2
      obtain ⟨r0, r1, r2, r3, r4, r5⟩ := Sc.rz_ h3.rs
      have rf := h3.rs.fr
      go_wp2
      have hB := put6 h3.rs (.string ⟨#[]⟩) (.string ⟨#[]⟩) (.int .u64 0) (.int .u64 0) (.bool false) (.string ⟨#[]⟩)
      have hO := old6 h3.od (.string ⟨#[]⟩) (.string ⟨#[]⟩) (.int .u64 0) (.int .u64 0) (.bool false) (.string ⟨#[]⟩)
      rw [HV.out]
      generalize ((((((w3.setCell ⟨w.heap.size, 0, none⟩ (.string ⟨#[]⟩)).setCell ⟨w.heap.size, 1, none⟩ (.string ⟨#[]⟩)).setCell ⟨w.heap.size, 2, none⟩ (.int .u64 0)).setCell ⟨w.heap.size, 3, none⟩ (.int .u64 0)).setCell ⟨w.heap.size, 4, none⟩ (.bool false)).setCell ⟨w.heap.size, 5, none⟩ (.string ⟨#[]⟩)) = w15 at *
      obtain ⟨z0, z1, z2, z3, z4, z5⟩ := Bk.six hB
      exact bodyPost_ret (v := .tuple #[.agg zeroCell, .int .i64 1]) (by simp [results, Tryz.results116, go_sem, z0, z1, z2, z3, z4, z5]) rfl ⟨rfl, hO⟩
    | some y =>
      have hy := cutM_le hc2
      rw [show cutV x.2 = .tuple #[.string (B y.1), .string (B y.2), .bool true] by simp [cutV, hc2]]
      have HC2 := Lib.hid hc2
      clear hc2
      have k0 := h3.nm.cell 1
      have k0f := h3.nm.fr 1
      go_wp2
      have h4 := h3.set1 y.1
      generalize w3.setCell ⟨w.heap.size + 1, 1, none⟩ (.string (B y.1)) = w4 at *
      clear h3 k0 k0f
      rw [rounds_succ]
      by_cases h16 : y.2.length = 16
      · have hI : ((y.2.length : Int) != 16) = false := by rw [h16]; rfl
        have H16 := Lib.hid h16
        have hle : y.2.length ≤ 16 := by omega
        have hge : 16 ≤ y.2.length := by omega
        clear h16
        go_wp2_with fail
        have k0 : w4.cell? ⟨w.heap.size + 1, 0, none⟩ = some (.string (B x.1)) := h4.nm.cell 0
        have k1 : w4.cell? ⟨w.heap.size + 1, 1, none⟩ = some (.string (B y.1)) := h4.nm.cell 1
        have n1 := xor_neg (highV (y.2.take 8)) (highV_lt8 _ (by simp; omega))
        have n2 := xor_neg (highV (y.2.drop 8)) (highV_lt8 _ (by simp; omega))
        have hsg : IntKind.u64.signed = false := rfl
        have hI8 : (8 : Int) ≤ (y.2.length : Int) := by omega
        go_region_held3 (fun W => Sf w W x.1 y.1 ∧ W.cell? ⟨w.heap.size + 1, 0, none⟩ = some (.string (B x.1)) ∧ W.cell? ⟨w.heap.size + 1, 1, none⟩ = some (.string (B y.1))) (exact Sf.held (Sf.old h4 (by repeat (first | exact Old.re _ | apply Old.al | apply Old.dr | apply Old.dn | (refine Old.st ?_ ?_ _; rotate_left; simp)))))
          (first
            | (go_at_call 118; with_reducible refine (highFirst_lo _ _).mono ?_; rintro r w5 ⟨rfl, rfl⟩)
            | (go_at_call 118; with_reducible refine (highFirst_hi _ hle _).mono ?_; rintro r w5 ⟨rfl, rfl⟩))
        all_goals
          have h5 : Sf w (w4.alloc (.cells (cells ⟨x.1, y.1, neg64 (highV (y.2.take 8)), neg64 (highV (y.2.drop 8)), false, []⟩) 34)).drew x.1 y.1 := h4.old ((Old.re _).al _).dr
          have bC : Bk (w4.alloc (.cells (cells ⟨x.1, y.1, neg64 (highV (y.2.take 8)), neg64 (highV (y.2.drop 8)), false, []⟩) 34)).drew w4.heap.size 34 (cells ⟨x.1, y.1, neg64 (highV (y.2.take 8)), neg64 (highV (y.2.drop 8)), false, []⟩) := (new_bk _ _ _).drew
          clear n1 n2 hsg k0 k1 hI8 hI
          go_upto_region 13 with (fail)
          generalize (w4.alloc (.cells (cells ⟨x.1, y.1, neg64 (highV (y.2.take 8)), neg64 (highV (y.2.drop 8)), false, []⟩) 34)).drew = w5 at *
          clear h4
          generalize w4.heap.size = g at *
          have HF := Lib.hid (show fromK s = if mayB ⟨x.1, y.1, neg64 (highV (y.2.take 8)), neg64 (highV (y.2.drop 8)), false, []⟩ = true then some ⟨x.1, y.1, neg64 (highV (y.2.take 8)), neg64 (highV (y.2.drop 8)), false, []⟩ else none by simp [fromK, HC.out, HC2.out, H16.out])
          generalize (⟨x.1, y.1, neg64 (highV (y.2.take 8)), neg64 (highV (y.2.drop 8)), false, []⟩ : Cel) = c at *
          obtain ⟨f0, f1, f2, f3, f4, f5⟩ := bC.six
          go_wp2_with fail
          refine (may_any c _).mono ?_
          rintro r w6 ⟨rfl, hb⟩
          have h6 := h5.old hb
          have bC := bC.old hb
          clear h5 hb f0 f1 f2 f3 f4 f5
          cases hm : mayB c
          · have HV := Lib.hid (show fromV s = .tuple #[.agg zeroCell, .int .i64 1] by simp [fromV, HF.out, hm])
            obtain ⟨r0, r1, r2, r3, r4, r5⟩ := Sc.rz_ h6.rs
            have rf := h6.rs.fr
            go_wp2
            have hB := put6 h6.rs (.string ⟨#[]⟩) (.string ⟨#[]⟩) (.int .u64 0) (.int .u64 0) (.bool false) (.string ⟨#[]⟩)
            have hO := old6 h6.od (.string ⟨#[]⟩) (.string ⟨#[]⟩) (.int .u64 0) (.int .u64 0) (.bool false) (.string ⟨#[]⟩)
            rw [HV.out]
            generalize ((((((w6.setCell ⟨w.heap.size, 0, none⟩ (.string ⟨#[]⟩)).setCell ⟨w.heap.size, 1, none⟩ (.string ⟨#[]⟩)).setCell ⟨w.heap.size, 2, none⟩ (.int .u64 0)).setCell ⟨w.heap.size, 3, none⟩ (.int .u64 0)).setCell ⟨w.heap.size, 4, none⟩ (.bool false)).setCell ⟨w.heap.size, 5, none⟩ (.string ⟨#[]⟩)) = w15 at *
            obtain ⟨z0, z1, z2, z3, z4, z5⟩ := Bk.six hB
            exact bodyPost_ret (v := .tuple #[.agg zeroCell, .int .i64 1]) (by simp [results, Tryz.results116, go_sem, z0, z1, z2, z3, z4, z5]) rfl ⟨rfl, hO⟩
          · have HV := Lib.hid (show fromV s = .tuple #[cv c, .int .i64 0] by simp [fromV, HF.out, hm])
            obtain ⟨r0, r1, r2, r3, r4, r5⟩ := Sc.rz_ h6.rs
            obtain ⟨f0, f1, f2, f3, f4, f5⟩ := bC.six
            have rf := h6.rs.fr
            go_wp2
            have hB := put6 h6.rs (.string (B c.row)) (.string (B c.col)) (.int .u64 c.ts) (.int .u64 c.seq) (.bool c.del) (.string (B c.val))
            have hO := old6 h6.od (.string (B c.row)) (.string (B c.col)) (.int .u64 c.ts) (.int .u64 c.seq) (.bool c.del) (.string (B c.val))
            rw [HV.out]
            generalize ((((((w6.setCell ⟨w.heap.size, 0, none⟩ (.string (B c.row))).setCell ⟨w.heap.size, 1, none⟩ (.string (B c.col))).setCell ⟨w.heap.size, 2, none⟩ (.int .u64 c.ts)).setCell ⟨w.heap.size, 3, none⟩ (.int .u64 c.seq)).setCell ⟨w.heap.size, 4, none⟩ (.bool c.del)).setCell ⟨w.heap.size, 5, none⟩ (.string (B c.val))) = w15 at *
            obtain ⟨z0, z1, z2, z3, z4, z5⟩ := Bk.six hB
            exact bodyPost_ret (v := .tuple #[cv c, .int .i64 0]) (by simp [results, Tryz.results116, go_sem, z0, z1, z2, z3, z4, z5]) rfl ⟨rfl, hO⟩
      · have hI : ((y.2.length : Int) != 16) = true := by rw [bne_iff_ne]; omega
        have HV := Lib.hid (show fromV s = .tuple #[.agg zeroCell, .int .i64 1] by simp [fromV, fromK, HC.out, HC2.out, h16])
        obtain ⟨r0, r1, r2, r3, r4, r5⟩ := Sc.rz_ h4.rs
        have rf := h4.rs.fr
        go_wp2
        have hB := put6 h4.rs (.string ⟨#[]⟩) (.string ⟨#[]⟩) (.int .u64 0) (.int .u64 0) (.bool false) (.string ⟨#[]⟩)
        have hO := old6 h4.od (.string ⟨#[]⟩) (.string ⟨#[]⟩) (.int .u64 0) (.int .u64 0) (.bool false) (.string ⟨#[]⟩)
        rw [HV.out]
        generalize ((((((w4.setCell ⟨w.heap.size, 0, none⟩ (.string ⟨#[]⟩)).setCell ⟨w.heap.size, 1, none⟩ (.string ⟨#[]⟩)).setCell ⟨w.heap.size, 2, none⟩ (.int .u64 0)).setCell ⟨w.heap.size, 3, none⟩ (.int .u64 0)).setCell ⟨w.heap.size, 4, none⟩ (.bool false)).setCell ⟨w.heap.size, 5, none⟩ (.string ⟨#[]⟩)) = w15 at *
        obtain ⟨z0, z1, z2, z3, z4, z5⟩ := Bk.six hB
        exact bodyPost_ret (v := .tuple #[.agg zeroCell, .int .i64 1]) (by simp [results, Tryz.results116, go_sem, z0, z1, z2, z3, z4, z5]) rfl ⟨rfl, hO⟩
end Go.Proofs.YtlmlopdakbbbjaaGreatDoor
