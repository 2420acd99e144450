/-
  Find and Over, the code's and the reference's. Conditions: lengths as written.
-/
import Derived.Test.YteglddggjkibcaaFRa
import Derived.Laws.Cover1
namespace Go.Proofs.Yteglddggjkibcaa
open Go.RowKit

/-- A file has a row. -/
def inF (row : List UInt8) (x : Itm) : Bool := leT x.low row && leT row x.high
/-- A file of a level has a row of some. -/
def overF (lv : Int) (low high : List UInt8) (x : Itm) : Bool := decide (x.lev = lv) && (leT x.low high && leT low x.high)
theorem not_less (s t : List UInt8) : leT t s = !(Op.bytesLess s t) := by
  have h := cmpT_neg s t
  have h1 := leT_iff t s
  have h2 := lt_iff s t
  have h3 := cmpT_vals s t
  rw [Bool.eq_iff_iff, h1]
  cases hb : Op.bytesLess s t with
  | true => simp; rw [hb] at h2; have := h2.1 rfl; omega
  | false => simp; rw [hb] at h2; simp at h2; omega
set_option maxHeartbeats 1000000 in
theorem find1_any (x : Itm) (row : List UInt8) (W : World) (g : Nat) (hb : Bk W g 9 #[.string (B row)]) :
    Calls Try.prog 40 #[iv x, .pointer (some ⟨g, 0, none⟩)] W fun e w' => e = .returned (.bool (inF row x)) ∧ Old W w' := by
  have y0 : (W.alloc (.cells (icells x) 60)).cell? ⟨g, 0, none⟩ = some (.string (B row)) := Bk.cell (hb.alloc _) 0
  go_enter Try.func40, Try.ntmps40
  go_wp2_with fail
  all_goals (go_ret; refine ⟨ret_bool ?_, old_alloc _ _⟩; unfold inF leT; clear y0; simp_all)
set_option maxHeartbeats 2000000 in
theorem find_code (w : World) (v : Value) (s : St) (row : List UInt8) (h : Itms w v s.files) (hl : s.files.length ≤ 50000) :
    Calls Try.prog 16 #[.agg #[v, .int .u64 (s.next : Int), .int .u64 (s.fl : Int)], .string (B row)] w fun e w' => ∃ u, e = .returned u ∧ OwnE 60 w' w.heap.size u (s.files.filter (inF row)) ∧ Old w w' := by
  obtain ⟨A, cap, rfl, -⟩ := h.form
  have HI := Lib.hid h
  clear h
  go_enter Try.func16, Try.ntmps16
  go_wp2_with fail
  have O2 := ((Old.re w).al (.cells #[.slice A s.files.length cap, .int .u64 (s.next : Int), .int .u64 (s.fl : Int)] 27)).al (.cells #[.string (B row)] 9)
  have hb := new_bk1 w (.cells #[.slice A s.files.length cap, .int .u64 (s.next : Int), .int .u64 (s.fl : Int)] 27) 9 #[.string (B row)]
  refine (those_any 40 (fun args w => by kernel_rfl) #[.pointer (some ⟨w.heap.size + 1, 0, none⟩)] (inF row) _ _ s.files (HI.out.old O2) hl (fun x _ W o => find1_any x row W _ (hb.old o))).mono ?_
  rintro e w3 ⟨u, rfl, ho, o3⟩
  have HO := Lib.hid (ho.lower O2.size)
  have O3 := O2.tr o3
  clear ho o3 O2 hb
  go_wp2
  go_ret
  exact ⟨_, rfl, HO.out, O3⟩
set_option maxHeartbeats 1000000 in
theorem over1_any (x : Itm) (lv : Int) (low high : List UInt8) (W : World) (gl gh gw : Nat) (hb1 : Bk W gl 3 #[.int .i64 lv]) (hb2 : Bk W gh 9 #[.string (B high)]) (hb3 : Bk W gw 9 #[.string (B low)]) :
    Calls Try.prog 41 #[iv x, .pointer (some ⟨gl, 0, none⟩), .pointer (some ⟨gh, 0, none⟩), .pointer (some ⟨gw, 0, none⟩)] W fun e w' => e = .returned (.bool (overF lv low high x)) ∧ Old W w' := by
  have y0 : (W.alloc (.cells (icells x) 60)).cell? ⟨gl, 0, none⟩ = some (.int .i64 lv) := Bk.cell (hb1.alloc _) 0
  have y1 : (W.alloc (.cells (icells x) 60)).cell? ⟨gh, 0, none⟩ = some (.string (B high)) := Bk.cell (hb2.alloc _) 0
  have y2 : (W.alloc (.cells (icells x) 60)).cell? ⟨gw, 0, none⟩ = some (.string (B low)) := Bk.cell (hb3.alloc _) 0
  by_cases h1 : x.lev = lv
  · have d1 : (x.lev == lv) = true := by simpa using h1
    have h2 : overF lv low high x = (leT x.low high && leT low x.high) := by unfold overF; simp [h1]
    clear h1
    rw [h2]
    clear h2
    go_enter Try.func41, Try.ntmps41
    go_wp2_with fail
    all_goals (go_ret; refine ⟨ret_bool ?_, old_alloc _ _⟩; unfold leT; clear y0 y1 y2; simp_all)
  · have d1 : (x.lev == lv) = false := by simpa using h1
    have h2 : overF lv low high x = false := by unfold overF; simp [h1]
    clear h1
    rw [h2]
    clear h2
    go_enter Try.func41, Try.ntmps41
    go_wp2_with fail
    go_ret
    exact ⟨rfl, old_alloc _ _⟩
set_option maxHeartbeats 2000000 in
theorem over_code (w : World) (v : Value) (s : St) (lv : Int) (low high : List UInt8) (h : Itms w v s.files) (hl : s.files.length ≤ 50000) :
    Calls Try.prog 18 #[.agg #[v, .int .u64 (s.next : Int), .int .u64 (s.fl : Int)], .int .i64 lv, .string (B low), .string (B high)] w fun e w' => ∃ u, e = .returned u ∧ OwnE 60 w' w.heap.size u (s.files.filter (overF lv low high)) ∧ Old w w' := by
  obtain ⟨A, cap, rfl, -⟩ := h.form
  have HI := Lib.hid h
  clear h
  go_enter Try.func18, Try.ntmps18
  go_wp2_with fail
  have O1 := (Old.re w).al (.cells #[.slice A s.files.length cap, .int .u64 (s.next : Int), .int .u64 (s.fl : Int)] 27)
  generalize hw1 : w.alloc (.cells #[.slice A s.files.length cap, .int .u64 (s.next : Int), .int .u64 (s.fl : Int)] 27) = w1 at *
  have hs1 : w1.heap.size = w.heap.size + 1 := by rw [← hw1]; simp
  have O2 := ((O1.al (.cells #[.int .i64 lv] 3)).al (.cells #[.string (B low)] 9)).al (.cells #[.string (B high)] 9)
  have b1 := ((new_bk w1 3 #[.int .i64 lv]).alloc (.cells #[.string (B low)] 9)).alloc (.cells #[.string (B high)] 9)
  have b3 := (new_bk1 w1 (.cells #[.int .i64 lv] 3) 9 #[.string (B low)]).alloc (.cells #[.string (B high)] 9)
  have b2 := new_bk1 (w1.alloc (.cells #[.int .i64 lv] 3)) (.cells #[.string (B low)] 9) 9 #[.string (B high)]
  simp only [World.size_alloc] at b2
  rw [hs1] at b1 b2 b3
  refine (those_any 41 (fun args w => by kernel_rfl) #[.pointer (some ⟨w.heap.size + 1, 0, none⟩), .pointer (some ⟨w.heap.size + 1 + 1 + 1, 0, none⟩), .pointer (some ⟨w.heap.size + 1 + 1, 0, none⟩)] (overF lv low high) _ _ s.files (HI.out.old O2) hl (fun x _ W o => over1_any x lv low high W _ _ _ (b1.old o) (b2.old o) (b3.old o))).mono ?_
  rintro e w3 ⟨u, rfl, ho, o3⟩
  have HO := Lib.hid (ho.lower O2.size)
  have O3 := O2.tr o3
  clear ho o3 O1 O2 b1 b2 b3 hw1 hs1
  go_wp2
  go_ret
  exact ⟨_, rfl, HO.out, O3⟩
theorem filter_yes {α : Type} {p : α → Bool} {l : List α} {k : Nat} {x : α} (hx : l[k]? = some x) (hp : p x = true) : (l.take k).filter p ++ [x] = (l.take (k + 1)).filter p := by
  rw [← take_at hx, List.filter_append, List.filter_cons_of_pos hp]
  simp
theorem filter_no {α : Type} {p : α → Bool} {l : List α} {k : Nat} {x : α} (hx : l[k]? = some x) (hp : p x = false) : (l.take k).filter p = (l.take (k + 1)).filter p := by
  rw [← take_at hx, List.filter_append, List.filter_cons_of_neg (by simp [hp])]
  simp
theorem filter_le {α : Type} {p : α → Bool} {l : List α} {k n : Nat} (h : l.length ≤ n) : ((l.take k).filter p).length ≤ n := by
  have h1 := List.length_filter_le p (l.take k)
  have h2 : (l.take k).length ≤ l.length := by simp; omega
  omega
set_option maxRecDepth 10000 in
set_option maxHeartbeats 4000000 in
theorem find_ref (w : World) (v : Value) (s : St) (row : List UInt8) (h : Itms w v s.files) (hl : s.files.length ≤ 50000) :
    Calls Try.prog 17 #[.agg #[v, .int .u64 (s.next : Int), .int .u64 (s.fl : Int)], .string (B row)] w fun e w' => ∃ u, e = .returned u ∧ OwnE 75 w' w.heap.size u (s.files.filter (inF row)) ∧ Old w w' := by
  obtain ⟨A, cap, rfl, -⟩ := h.form
  have HI := Lib.hid h
  clear h
  go_enter Try.func17, Try.ntmps17
  go_wp2_with fail
  have O1 := (Old.re w).al (.cells #[.slice A s.files.length cap, .int .u64 (s.next : Int), .int .u64 (s.fl : Int)] 30)
  have B1 := Lib.hid (new_bk w 30 #[.slice A s.files.length cap, .int .u64 (s.next : Int), .int .u64 (s.fl : Int)])
  generalize hw1 : w.alloc (.cells #[.slice A s.files.length cap, .int .u64 (s.next : Int), .int .u64 (s.fl : Int)] 30) = w1 at *
  have hs1 : w.heap.size + 1 = w1.heap.size := by rw [← hw1]; simp
  try rw [hs1]
  have HO2 := Lib.hid (OwnE.empty (base := w1.heap.size) (new_bk w1 75 #[]) (Nat.le_refl _))
  obtain ⟨h, hh⟩ : ∃ h, h = w.heap.size := ⟨_, rfl⟩
  rw [← hh] at B1 ⊢
  clear hh hw1 hs1
  go_loopw [5, 6] (fun ov iv wr => ∃ k : Nat, iv = .int .i64 k ∧ k ≤ s.files.length ∧ Old w1 wr ∧ Hid (OwnE 75 wr w1.heap.size ov ((s.files.take k).filter (inF row)))) (fun _ iv _ => s.files.length - (intOf iv).toNat)
  case atStart => exact ⟨0, rfl, Nat.zero_le _, old_alloc _ _, by simpa using HO2⟩
  case round =>
    clear HO2
    obtain ⟨k, rfl, hk, o1, HO⟩ := hrel
    have O3 := O1.tr o1
    have a0 : wr.cell? ⟨h, 0, none⟩ = some (.slice A s.files.length cap) := (B1.out.old o1).cell 0
    by_cases hlt : k < s.files.length
    · obtain ⟨x, HX⟩ : ∃ x, Hid (s.files[k]? = some x) := ⟨s.files[k], Lib.hid (List.getElem?_eq_getElem hlt)⟩
      obtain ⟨b, off, rfl, hx⟩ := (HI.out.old O3).at_ HX.out
      obtain ⟨x0, x1, x2, x3, x4⟩ := hx.held
      clear hx
      cases hL1 : leT x.low row with
      | false =>
        have hf : inF row x = false := by unfold inF; rw [hL1]; rfl
        have d1 : Op.bytesLess row x.low = true := by rw [not_less] at hL1; simpa using hL1
        have HN : Hid (OwnE 75 wr w1.heap.size u5 ((s.files.take (k + 1)).filter (inF row))) := Lib.hid (by rw [← filter_no HX.out hf]; exact HO.out)
        clear hf HO HX hL1
        go_wp2
        go_roundw
        case rel => exact ⟨k + 1, by go_num, by omega, o1, HN⟩
        case measure => simp [intOf]; omega
      | true =>
        have d1 : Op.bytesLess row x.low = false := by rw [not_less] at hL1; simpa using hL1
        cases hL2 : leT row x.high with
        | false =>
          have hf : inF row x = false := by unfold inF; rw [hL1, hL2]; rfl
          have d2 : Op.bytesLess row x.high = false := by unfold leT at hL2; rw [Bool.or_eq_false_iff] at hL2; exact hL2.1
          have d3 : (row == x.high) = false := by unfold leT at hL2; rw [Bool.or_eq_false_iff] at hL2; exact hL2.2
          have HN : Hid (OwnE 75 wr w1.heap.size u5 ((s.files.take (k + 1)).filter (inF row))) := Lib.hid (by rw [← filter_no HX.out hf]; exact HO.out)
          clear hf HO HX hL1 hL2
          go_wp2
          go_roundw
          case rel => exact ⟨k + 1, by go_num, by omega, o1, HN⟩
          case measure => simp [intOf]; omega
        | true =>
          have hf : inF row x = true := by unfold inF; rw [hL1, hL2]; rfl
          have d2 : (Op.bytesLess row x.high || row == x.high) = true := hL2
          clear hL1 hL2
          cases e1 : Op.bytesLess row x.high with
          | true =>
            clear d2
            have hl2 := Lib.hid (filter_le (p := inF row) (k := k) hl)
            go_wp2_with (at_builtin; refine wp_its rfl (.tmp 33) (.tmp 39) 28 75 Try.underlying28 Try.infoItemR rfl (W0 := w1) (o1.al _) _ ((s.files.take k).filter (inF row)) [x] rfl (HO.out.old ((Old.re _).al _)) _ rfl (one_its (new_bk _ _ _)) (by have := hl2.out; simp only [List.length_cons, List.length_nil]; omega) ?_; intro v8 w8 n8 o8; refine Hid.out ?_)
            rw [filter_yes HX.out hf] at n8
            have HN := Lib.hid n8
            clear n8 HO HX hl2 hf a0 x0 x1 x2 x3 x4
            refine Lib.hid ?_
            go_wp2
            go_roundw
            case rel => exact ⟨k + 1, by go_num, by omega, o8, HN⟩
            case measure => simp [intOf]; omega
          | false =>
            have e2 : (row == x.high) = true := by rw [e1] at d2; simpa using d2
            clear d2
            have hl2 := Lib.hid (filter_le (p := inF row) (k := k) hl)
            go_wp2_with (at_builtin; refine wp_its rfl (.tmp 33) (.tmp 39) 28 75 Try.underlying28 Try.infoItemR rfl (W0 := w1) (o1.al _) _ ((s.files.take k).filter (inF row)) [x] rfl (HO.out.old ((Old.re _).al _)) _ rfl (one_its (new_bk _ _ _)) (by have := hl2.out; simp only [List.length_cons, List.length_nil]; omega) ?_; intro v8 w8 n8 o8; refine Hid.out ?_)
            rw [filter_yes HX.out hf] at n8
            have HN := Lib.hid n8
            clear n8 HO HX hl2 hf a0 x0 x1 x2 x3 x4
            refine Lib.hid ?_
            go_wp2
            go_roundw
            case rel => exact ⟨k + 1, by go_num, by omega, o8, HN⟩
            case measure => simp [intOf]; omega
    · obtain rfl : k = s.files.length := by omega
      have HE := HO.out
      rw [List.take_length] at HE
      have HE := Lib.hid HE
      clear HO
      go_wp2
      go_ret
      exact ⟨_, rfl, HE.out.lower O1.size, O3⟩
end Go.Proofs.Yteglddggjkibcaa
