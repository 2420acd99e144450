/-
  Span, Row and Bytes of the reference. Conditions: at most 1000 cells.
-/
import Derived.Test.YthanenblcplbhaaRPut
import Derived.Test.YthanenblcplbhaaMREn
namespace Go.Proofs.Ythanenblcplbhaa
set_option maxRecDepth 100000
open Go.RowKit Go.Shelf

theorem inSpan_eq (a z : List UInt8) (c : Cel) : inSpan a z c = (!Op.bytesLess c.row a && (z.isEmpty || Op.bytesLess c.row z)) := by
  unfold inSpan
  have h1 : decide (cmpT c.row a ≠ -1) = !Op.bytesLess c.row a := by
    rw [Bool.eq_iff_iff, decide_eq_true_eq, ne_eq, lt_iff]
    simp
  have h2 : decide (cmpT c.row z = -1) = Op.bytesLess c.row z := by
    rw [Bool.eq_iff_iff, decide_eq_true_eq, lt_iff]
  rw [h1, h2]
theorem filter_snoc {l : List Cel} {k : Nat} {x : Cel} (h : l[k]? = some x) (p : Cel → Bool) : (l.take (k + 1)).filter p = (l.take k).filter p ++ (if p x = true then [x] else []) := by
  rw [take_snoc h, List.filter_append, List.filter_cons, List.filter_nil]
set_option maxHeartbeats 8000000 in
theorem rspan_any (v : Value) (l : List Cel) (a z : List UInt8) (w : World) (h : Cels w v l) (hl : l.length ≤ 1000) :
    Calls Try.prog 15 #[v, .string (B a), .string (B z)] w (Ans w (l.filter (inSpan a z))) := by
  obtain ⟨A, cap, rfl, hc⟩ := h.form
  have HI := Lib.hid h
  have oA := old_alloc w (.cells #[] 31)
  have HE := Lib.hid (show OwnC (w.alloc (.cells #[] 31)) w.heap.size (.slice (some ⟨w.heap.size, 0, none⟩) 0 0) ((l.take 0).filter (inSpan a z)) from OwnC.empty (new_bk w 31 #[]) (Nat.le_refl _))
  clear h
  go_enter Try.func15, Try.ntmps15
  go_wp2_with fail
  go_loopw [7, 8] (fun bv iv wr => ∃ (k : Nat) (av : Value), iv = .int .i64 (k : Int) ∧ av = bv ∧ k ≤ l.length ∧ Old w wr ∧ Hid (OwnC wr w.heap.size av ((l.take k).filter (inSpan a z)))) (fun _ iv _ => l.length - (intOf iv).toNat)
  case atStart => exact ⟨0, _, rfl, rfl, Nat.zero_le _, oA, HE⟩
  case round =>
    clear HE oA
    obtain ⟨k, av, rfl, rfl, hk, ow, HW⟩ := hrel
    obtain ⟨A3, n3, c3, rfl⟩ := HW.out.slice
    by_cases hlt : k < l.length
    · obtain ⟨x, HX⟩ : ∃ x, Hid (l[k]? = some x) := ⟨l[k], Lib.hid (List.getElem?_eq_getElem hlt)⟩
      obtain ⟨b, off, rfl, hx⟩ := (HI.out.old ow).at_ HX.out
      obtain ⟨x0, x1, x2, x3, x4, x5⟩ := hx.held
      have HF := Lib.hid (filter_snoc HX.out (inSpan a z))
      have HLN := Lib.hid (show ((l.take k).filter (inSpan a z)).length ≤ 1000 from Nat.le_trans (List.length_filter_le _ _) (Nat.le_trans (List.length_take_le' _ _) hl))
      have i1 : (0 : Int) ≤ (k : Int) := by omega
      have i2 : (k : Int) < (l.length : Int) := by omega
      clear hx
      cases h1 : Op.bytesLess x.row a with
      | true =>
        have HZ := Lib.hid (show OwnC wr w.heap.size (.slice A3 n3 c3) ((l.take (k + 1)).filter (inSpan a z)) by rw [HF.out, if_neg (by rw [inSpan_eq, h1]; simp), List.append_nil]; exact HW.out)
        clear HW HF HLN
        go_wp2
        go_roundw
        case rel => exact ⟨k + 1, _, by go_num, rfl, by omega, ow, HZ⟩
        case measure => simp [intOf]; omega
      | false =>
        by_cases h2 : z = []
        · subst h2
          have HY := Lib.hid (show (l.take (k + 1)).filter (inSpan a []) = (l.take k).filter (inSpan a []) ++ [x] by rw [HF.out, if_pos (by rw [inSpan_eq, h1]; rfl)])
          have oB := ow.al (.cells (cells x) 31)
          have HC := Lib.hid (one_cel (new_bk wr 31 (cells x)))
          have HW2 := Lib.hid (HW.out.old (old_alloc wr (.cells (cells x) 31)))
          clear HF HW
          go_wp2_with (first
            | (at_builtin; refine wp_cels rfl (.tmp 36) (.tmp 41) rfl (W0 := w) oB _ ((l.take k).filter (inSpan a [])) [x] rfl HW2.out _ rfl HC.out (by have := HLN.out; rw [List.length_singleton]; omega) ?_; intro v8 w8 n8 o8 f8 r8; refine Hid.out ?_)
            | fail)
          have HZ := Lib.hid (show OwnC w8 w.heap.size v8 ((l.take (k + 1)).filter (inSpan a [])) by rw [HY.out]; exact n8)
          clear f8 r8 HW2 HC HLN HY n8
          refine Lib.hid ?_
          go_wp2
          go_roundw
          case rel => exact ⟨k + 1, _, by go_num, rfl, by omega, o8, HZ⟩
          case measure => simp [intOf]; omega
        · have hem : z.isEmpty = false := by
            cases z with
            | nil => exact absurd rfl h2
            | cons p q => rfl
          have hem2 : (z == []) = false := by simpa using h2
          cases h3 : Op.bytesLess x.row z with
          | true =>
            have HY := Lib.hid (show (l.take (k + 1)).filter (inSpan a z) = (l.take k).filter (inSpan a z) ++ [x] by rw [HF.out, if_pos (by rw [inSpan_eq, h1, h3]; simp)])
            have oB := ow.al (.cells (cells x) 31)
            have HC := Lib.hid (one_cel (new_bk wr 31 (cells x)))
            have HW2 := Lib.hid (HW.out.old (old_alloc wr (.cells (cells x) 31)))
            clear HF HW
            go_wp2_with (first
              | (at_builtin; refine wp_cels rfl (.tmp 36) (.tmp 41) rfl (W0 := w) oB _ ((l.take k).filter (inSpan a z)) [x] rfl HW2.out _ rfl HC.out (by have := HLN.out; rw [List.length_singleton]; omega) ?_; intro v8 w8 n8 o8 f8 r8; refine Hid.out ?_)
              | fail)
            have HZ := Lib.hid (show OwnC w8 w.heap.size v8 ((l.take (k + 1)).filter (inSpan a z)) by rw [HY.out]; exact n8)
            clear f8 r8 HW2 HC HLN HY n8
            refine Lib.hid ?_
            go_wp2
            go_roundw
            case rel => exact ⟨k + 1, _, by go_num, rfl, by omega, o8, HZ⟩
            case measure => simp [intOf]; omega
          | false =>
            have HZ := Lib.hid (show OwnC wr w.heap.size (.slice A3 n3 c3) ((l.take (k + 1)).filter (inSpan a z)) by rw [HF.out, if_neg (by rw [inSpan_eq, h1, h3, hem]; simp), List.append_nil]; exact HW.out)
            clear HW HF HLN
            go_wp2
            go_roundw
            case rel => exact ⟨k + 1, _, by go_num, rfl, by omega, ow, HZ⟩
            case measure => simp [intOf]; omega
    · obtain rfl : k = l.length := by omega
      have hz := HW.out
      rw [List.take_length] at hz
      have HZ := Lib.hid hz
      clear HW hz
      go_wp2
      go_ret
      exact ⟨_, rfl, HZ.out, ow⟩
set_option maxHeartbeats 8000000 in
theorem rrow_any (v : Value) (l : List Cel) (s : List UInt8) (w : World) (h : Cels w v l) (hl : l.length ≤ 1000) :
    Calls Try.prog 17 #[v, .string (B s)] w (Ans w (l.filter (fun c => c.row == s))) := by
  obtain ⟨A, cap, rfl, hc⟩ := h.form
  have HI := Lib.hid h
  have oA := old_alloc w (.cells #[] 31)
  have HE := Lib.hid (show OwnC (w.alloc (.cells #[] 31)) w.heap.size (.slice (some ⟨w.heap.size, 0, none⟩) 0 0) ((l.take 0).filter (fun c => c.row == s)) from OwnC.empty (new_bk w 31 #[]) (Nat.le_refl _))
  clear h
  go_enter Try.func17, Try.ntmps17
  go_wp2_with fail
  go_loopw [5, 6] (fun bv iv wr => ∃ (k : Nat) (av : Value), iv = .int .i64 (k : Int) ∧ av = bv ∧ k ≤ l.length ∧ Old w wr ∧ Hid (OwnC wr w.heap.size av ((l.take k).filter (fun c => c.row == s)))) (fun _ iv _ => l.length - (intOf iv).toNat)
  case atStart => exact ⟨0, _, rfl, rfl, Nat.zero_le _, oA, HE⟩
  case round =>
    clear HE oA
    obtain ⟨k, av, rfl, rfl, hk, ow, HW⟩ := hrel
    obtain ⟨A3, n3, c3, rfl⟩ := HW.out.slice
    by_cases hlt : k < l.length
    · obtain ⟨x, HX⟩ : ∃ x, Hid (l[k]? = some x) := ⟨l[k], Lib.hid (List.getElem?_eq_getElem hlt)⟩
      obtain ⟨b, off, rfl, hx⟩ := (HI.out.old ow).at_ HX.out
      obtain ⟨x0, x1, x2, x3, x4, x5⟩ := hx.held
      have HF := Lib.hid (filter_snoc HX.out (fun c => c.row == s))
      have HLN := Lib.hid (show ((l.take k).filter (fun c => c.row == s)).length ≤ 1000 from Nat.le_trans (List.length_filter_le _ _) (Nat.le_trans (List.length_take_le' _ _) hl))
      have i1 : (0 : Int) ≤ (k : Int) := by omega
      have i2 : (k : Int) < (l.length : Int) := by omega
      clear hx
      by_cases e : x.row = s
      · have e1 : (x.row == s) = true := by simpa using e
        clear e
        have HY := Lib.hid (show (l.take (k + 1)).filter (fun c => c.row == s) = (l.take k).filter (fun c => c.row == s) ++ [x] by rw [HF.out, if_pos (e1)])
        have oB := ow.al (.cells (cells x) 31)
        have HC := Lib.hid (one_cel (new_bk wr 31 (cells x)))
        have HW2 := Lib.hid (HW.out.old (old_alloc wr (.cells (cells x) 31)))
        clear HF HW
        go_wp2_with (first
          | (at_builtin; refine wp_cels rfl (.tmp 21) (.tmp 26) rfl (W0 := w) oB _ ((l.take k).filter (fun c => c.row == s)) [x] rfl HW2.out _ rfl HC.out (by have := HLN.out; rw [List.length_singleton]; omega) ?_; intro v8 w8 n8 o8 f8 r8; refine Hid.out ?_)
          | fail)
        have HZ := Lib.hid (show OwnC w8 w.heap.size v8 ((l.take (k + 1)).filter (fun c => c.row == s)) by rw [HY.out]; exact n8)
        clear f8 r8 HW2 HC HLN HY n8
        refine Lib.hid ?_
        go_wp2
        go_roundw
        case rel => exact ⟨k + 1, _, by go_num, rfl, by omega, o8, HZ⟩
        case measure => simp [intOf]; omega
      · have e1 : (x.row == s) = false := by simpa using e
        clear e
        have HZ := Lib.hid (show OwnC wr w.heap.size (.slice A3 n3 c3) ((l.take (k + 1)).filter (fun c => c.row == s)) by rw [HF.out, if_neg (by rw [e1]; decide), List.append_nil]; exact HW.out)
        clear HW HF HLN
        go_wp2
        go_roundw
        case rel => exact ⟨k + 1, _, by go_num, rfl, by omega, ow, HZ⟩
        case measure => simp [intOf]; omega
    · obtain rfl : k = l.length := by omega
      have hz := HW.out
      rw [List.take_length] at hz
      have HZ := Lib.hid hz
      clear HW hz
      go_wp2
      go_ret
      exact ⟨_, rfl, HZ.out, ow⟩
theorem totB_snoc {l : List Cel} {k : Nat} {x : Cel} (h : l[k]? = some x) : totB (l.take (k + 1)) = totB (l.take k) + (enc x).length := by
  rw [take_snoc h]
  simp [totB]
set_option maxHeartbeats 8000000 in
theorem rbytes_any (v : Value) (l : List Cel) (w : World) (h : Cels w v l) (hl : l.length ≤ 1000) (hm : ∀ c ∈ l, mayB c = true ∧ c.ok) :
    Calls Try.prog 20 #[v] w fun e w' => e = .returned (.int .i64 (totB l : Int)) ∧ Old w w' := by
  obtain ⟨A, cap, rfl, hc⟩ := h.form
  have HI := Lib.hid h
  have HM := Lib.hid hm
  clear h hm
  go_enter Try.func20, Try.ntmps20
  go_wp2_with fail
  go_loopw [3, 4] (fun nv iv wr => ∃ k n : Nat, iv = .int .i64 (k : Int) ∧ nv = .int .i64 (n : Int) ∧ k ≤ l.length ∧ Old w wr ∧ Hid (n = totB (l.take k))) (fun _ iv _ => l.length - (intOf iv).toNat)
  case atStart => exact ⟨0, 0, rfl, rfl, Nat.zero_le _, Old.re _, Lib.hid rfl⟩
  case round =>
    obtain ⟨k, n, rfl, rfl, hk, ow, HN⟩ := hrel
    by_cases hlt : k < l.length
    · obtain ⟨x, HX⟩ : ∃ x, Hid (l[k]? = some x) := ⟨l[k], Lib.hid (List.getElem?_eq_getElem hlt)⟩
      obtain ⟨b, off, rfl, hx⟩ := (HI.out.old ow).at_ HX.out
      obtain ⟨x0, x1, x2, x3, x4, x5⟩ := hx.held
      have hmx := HM.out x (List.mem_of_getElem? HX.out)
      have CE := Lib.hid (rencode_yes x wr hmx.1 hmx.2)
      have hle := enc_len hmx.1
      have hn : n ≤ 300000 := by
        rw [HN.out]
        have h1 := totB_le (L := l.take k) fun c hc => HM.out c (List.mem_of_mem_take hc)
        have h2 := List.length_take_le' k l
        omega
      have HN2 := Lib.hid (show n + (enc x).length = totB (l.take (k + 1)) by rw [totB_snoc HX.out, HN.out])
      have i1 : (0 : Int) ≤ (k : Int) := by omega
      have i2 : (k : Int) < (l.length : Int) := by omega
      clear hx hmx
      go_wp2_with fail
      refine CE.out.mono ?_
      rintro e w2 ⟨rfl, o2⟩
      have o3 := ow.tr o2
      clear CE x0 x1 x2 x3 x4 x5 HX HN
      go_wp2
      go_roundw
      case rel => exact ⟨k + 1, n + (enc x).length, by go_num, by go_num, by omega, o3, HN2⟩
      case measure => simp [intOf]; omega
    · obtain rfl : k = l.length := by omega
      have HZ := Lib.hid (show n = totB l by rw [HN.out, List.take_length])
      clear HN
      go_wp2
      go_ret
      exact ⟨ret_int (by rw [HZ.out]), ow⟩
end Go.Proofs.Ythanenblcplbhaa
