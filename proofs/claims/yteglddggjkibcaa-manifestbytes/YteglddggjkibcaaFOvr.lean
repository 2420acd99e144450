/-
  Over of the reference. Conditions: lengths as written.
-/
import Derived.Test.YteglddggjkibcaaFFnd
namespace Go.Proofs.Yteglddggjkibcaa
open Go.RowKit

set_option maxRecDepth 10000 in
set_option maxHeartbeats 4000000 in
theorem over_ref (w : World) (v : Value) (s : St) (lv : Int) (low high : List UInt8) (h : Itms w v s.files) (hl : s.files.length ≤ 50000) :
    Calls Try.prog 19 #[.agg #[v, .int .u64 (s.next : Int), .int .u64 (s.fl : Int)], .int .i64 lv, .string (B low), .string (B high)] w fun e w' => ∃ u, e = .returned u ∧ OwnE 75 w' w.heap.size u (s.files.filter (overF lv low high)) ∧ Old w w' := by
  obtain ⟨A, cap, rfl, -⟩ := h.form
  have HI := Lib.hid h
  clear h
  go_enter Try.func19, Try.ntmps19
  go_wp2_with fail
  have O1 := (Old.re w).al (.cells #[.slice A s.files.length cap, .int .u64 (s.next : Int), .int .u64 (s.fl : Int)] 30)
  have B1 := Lib.hid (new_bk w 30 #[.slice A s.files.length cap, .int .u64 (s.next : Int), .int .u64 (s.fl : Int)])
  generalize hw1 : w.alloc (.cells #[.slice A s.files.length cap, .int .u64 (s.next : Int), .int .u64 (s.fl : Int)] 30) = w1 at *
  have hs1 : w.heap.size + 1 = w1.heap.size := by rw [← hw1]; simp
  try rw [hs1]
  have HO2 := Lib.hid (OwnE.empty (base := w1.heap.size) (new_bk w1 75 #[]) (Nat.le_refl _))
  obtain ⟨h, hh⟩ : ∃ h, h = w.heap.size := ⟨_, rfl⟩
  rw [← hh] at B1 ⊢
  clear hh hw1 hs1
  go_loopw [9, 10] (fun ov iv wr => ∃ k : Nat, iv = .int .i64 k ∧ k ≤ s.files.length ∧ Old w1 wr ∧ Hid (OwnE 75 wr w1.heap.size ov ((s.files.take k).filter (overF lv low high)))) (fun _ iv _ => s.files.length - (intOf iv).toNat)
  case atStart => exact ⟨0, rfl, Nat.zero_le _, old_alloc _ _, by simpa using HO2⟩
  case round =>
    clear HO2
    obtain ⟨k, rfl, hk, o1, HO⟩ := hrel
    have O3 := O1.tr o1
    have a0 : wr.cell? ⟨h, 0, none⟩ = some (.slice A s.files.length cap) := (B1.out.old o1).cell 0
    by_cases hlt : k < s.files.length
    · obtain ⟨x, HX⟩ : ∃ x, Hid (s.files[k]? = some x) := ⟨s.files[k], Lib.hid (List.getElem?_eq_getElem hlt)⟩
      obtain ⟨b, off, rfl, hx⟩ := (HI.out.old O3).at_ HX.out
      have HXX := Lib.hid hx
      obtain ⟨x0, x1, x2, x3, x4⟩ := hx.held
      clear hx
      by_cases h1 : x.lev = lv
      · have d1 : (x.lev == lv) = true := by simpa using h1
        have HL := Lib.hid h1
        clear h1
        go_wp2_with fail
        refine (common_any x ⟨0, [], low, high, 0⟩ wr).mono ?_
        rintro e w2 ⟨rfl, o2⟩
        have o1 := o1.tr o2
        have O3 := O3.tr o2
        have HO := Lib.hid (HO.out.old o2)
        have HXX := Lib.hid (HXX.out.old o2)
        have a0 : w2.cell? ⟨h, 0, none⟩ = some (.slice (some ⟨b, off, none⟩) s.files.length cap) := (B1.out.old o1).cell 0
        clear x0 x1 x2 x3 x4
        obtain ⟨x0, x1, x2, x3, x4⟩ := HXX.out.held
        cases hL : (leT x.low high && leT low x.high) with
        | false =>
          have hf : overF lv low high x = false := by unfold overF; rw [hL]; simp
          have HN : Hid (OwnE 75 w2 w1.heap.size u9 ((s.files.take (k + 1)).filter (overF lv low high))) := Lib.hid (by rw [← filter_no HX.out hf]; exact HO.out)
          clear hf HO HX hL
          go_wp2
          go_roundw
          case rel => exact ⟨k + 1, by go_num, by omega, o1, HN⟩
          case measure => simp [intOf]; omega
        | true =>
          have hf : overF lv low high x = true := by unfold overF; rw [hL]; simp [HL.out]
          clear hL HXX
          have hl2 := Lib.hid (filter_le (p := overF lv low high) (k := k) hl)
          go_wp2_with (at_builtin; refine wp_its rfl (.tmp 38) (.tmp 44) 28 75 Try.underlying28 Try.infoItemR rfl (W0 := w1) (o1.al _) _ ((s.files.take k).filter (overF lv low high)) [x] rfl (HO.out.old ((Old.re _).al _)) _ rfl (one_its (new_bk _ _ _)) (by have := hl2.out; simp only [List.length_cons, List.length_nil]; omega) ?_; intro v8 w8 n8 o8; refine Hid.out ?_)
          rw [filter_yes HX.out hf] at n8
          have HN := Lib.hid n8
          clear n8 HO HX hl2 hf a0 x0 x1 x2 x3 x4
          refine Lib.hid ?_
          go_wp2
          go_roundw
          case rel => exact ⟨k + 1, by go_num, by omega, o8, HN⟩
          case measure => simp [intOf]; omega
      · have d1 : (x.lev == lv) = false := by simpa using h1
        have hf : overF lv low high x = false := by unfold overF; simp [h1]
        have HN : Hid (OwnE 75 wr w1.heap.size u9 ((s.files.take (k + 1)).filter (overF lv low high))) := Lib.hid (by rw [← filter_no HX.out hf]; exact HO.out)
        clear hf HO HX h1
        go_wp2
        go_roundw
        case rel => exact ⟨k + 1, by go_num, by omega, o1, HN⟩
        case measure => simp [intOf]; omega
    · obtain rfl : k = s.files.length := by omega
      have HE := HO.out
      rw [List.take_length] at HE
      have HE := Lib.hid HE
      clear HO
      go_wp2
      go_ret
      exact ⟨_, rfl, HE.out.lower O1.size, O3⟩
end Go.Proofs.Yteglddggjkibcaa
