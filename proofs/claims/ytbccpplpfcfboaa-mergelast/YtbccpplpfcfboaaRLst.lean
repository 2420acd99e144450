/-
  Lists of items made of cells, and of others: Items of the code and of the reference, its, cells; the law's bound; Same. Conditions: lengths as written.
-/
import Derived.Test.YtbccpplpfcfboaaRCel
namespace Go.Proofs.Ytbccpplpfcfboaa
open Go.RowKit

/-- Cells with their places. -/
def itemsOf (l : List Cel) : List Itm := l.mapIdx fun i c => ⟨c, (i : Int)⟩
theorem itemsOf_len (l : List Cel) : (itemsOf l).length = l.length := by simp [itemsOf]
theorem itemsOf_at {l : List Cel} {i : Nat} {c : Cel} (h : l[i]? = some c) : (itemsOf l)[i]? = some ⟨c, (i : Int)⟩ := by simp [itemsOf, h]
theorem itemsOf_take {l : List Cel} {i : Nat} {c : Cel} (h : l[i]? = some c) : (itemsOf l).take i ++ [⟨c, (i : Int)⟩] = (itemsOf l).take (i + 1) := by
  have h1 := itemsOf_at h
  obtain ⟨h2, h3⟩ := List.getElem?_eq_some_iff.1 h1
  rw [List.take_succ_eq_append_getElem h2, h3]
theorem take_at {α : Type} {l : List α} {i : Nat} {c : α} (h : l[i]? = some c) : l.take i ++ [c] = l.take (i + 1) := by
  obtain ⟨h2, h3⟩ := List.getElem?_eq_some_iff.1 h
  rw [List.take_succ_eq_append_getElem h2, h3]
/-- A block with one item, as a slice. -/
theorem one_its {e : TypeId} {w : World} {g : Nat} {x : Itm} (h : Bk w g e (icells x)) : Itms w (.slice (some ⟨g, 0, none⟩) 1 1) [x] :=
  .inr ⟨⟨g, 0, none⟩, 1, rfl, Nat.le_refl _, fun _ => ⟨g, 0, rfl, fun i y hy => by
    cases i with
    | zero =>
      simp at hy
      subst hy
      exact ⟨h.cell 0, h.cell 1, h.cell 2, h.cell 3, h.cell 4, h.cell 5, h.cell 6⟩
    | succ i => simp at hy⟩⟩
theorem new_bk1 (w : World) (o : Obj) (t : TypeId) (cs : Array Value) : Bk ((w.alloc o).alloc (.cells cs t)) (w.heap.size + 1) t cs := by
  have h := new_bk (w.alloc o) t cs
  simpa using h
theorem one_cel {w : World} {g : Nat} {c : Cel} (h : Bk w g 53 (cells c)) : Cels w (.slice (some ⟨g, 0, none⟩) 1 1) [c] :=
  .inr ⟨⟨g, 0, none⟩, 1, rfl, Nat.le_refl _, fun _ => ⟨g, 0, rfl, fun i y hy => by
    cases i with
    | zero =>
      simp at hy
      subst hy
      exact ⟨h.cell 0, h.cell 1, h.cell 2, h.cell 3, h.cell 4, h.cell 5⟩
    | succ i => simp at hy⟩⟩

set_option maxHeartbeats 2000000 in
theorem its_any (w : World) (v : Value) (l : List Itm) (h : Itms w v l) (hl : l.length ≤ 50000) :
    Calls Try.prog 18 #[v] w fun e w' => ∃ u, e = .returned u ∧ Old w w' ∧ OwnE 56 w' w.heap.size u l := by
  obtain ⟨A, cap, rfl, hc⟩ := h.form
  have HI := Lib.hid h
  clear h
  go_enter Try.func18, Try.ntmps18
  go_wp2_with fail
  go_loopw [3, 4] (fun ov iv wr => ∃ k : Nat, iv = .int .i64 k ∧ k ≤ l.length ∧ Old w wr ∧ Hid (OwnE 56 wr w.heap.size ov (l.take k))) (fun _ iv _ => l.length - (intOf iv).toNat)
  case atStart => exact ⟨0, rfl, Nat.zero_le _, old_alloc _ _, Lib.hid (OwnE.empty (new_bk _ _ _) (Nat.le_refl _))⟩
  case round =>
    obtain ⟨k, rfl, hk, o1, HO⟩ := hrel
    by_cases hlt : k < l.length
    · obtain ⟨x, HX⟩ : ∃ x, Hid (l[k]? = some x) := ⟨l[k], Lib.hid (List.getElem?_eq_getElem hlt)⟩
      obtain ⟨b, off, rfl, hx⟩ := (HI.out.old o1).at_ HX.out
      obtain ⟨x0, x1, x2, x3, x4, x5, x6⟩ := hx.held
      go_wp2_with (at_builtin; refine wp_its rfl (.tmp 12) (.tmp 17) 40 56 Try.underlying40 Try.infoItemR rfl (W0 := w) (o1.al _) _ (l.take k) [x] rfl (HO.out.old (old_alloc _ _)) _ rfl (one_its (new_bk _ _ _)) (by simp; omega) ?_; intro v8 w8 n8 o8; refine Hid.out ?_)
      rw [take_at HX.out] at n8
      clear x0 x1 x2 x3 x4 x5 x6 hx HO HX
      refine Lib.hid ?_
      go_wp2
      go_round
      case rel => exact ⟨k + 1, by go_num, by omega, o8, Lib.hid n8⟩
      case measure => simp [intOf]; omega
    · obtain rfl : k = l.length := by omega
      go_wp2
      go_ret
      exact ⟨_, rfl, o1, by have := HO.out; rwa [List.take_length] at this⟩

set_option maxHeartbeats 2000000 in
theorem ritems_any (w : World) (v : Value) (l : List Cel) (h : Cels w v l) (hl : l.length ≤ 50000) :
    Calls Try.prog 38 #[v] w fun e w' => ∃ u, e = .returned u ∧ Old w w' ∧ OwnE 56 w' w.heap.size u (itemsOf l) := by
  obtain ⟨A, cap, rfl, hc⟩ := h.form
  have HI := Lib.hid h
  clear h
  go_enter Try.func38, Try.ntmps38
  go_wp2_with fail
  go_loopw [3, 4] (fun ov iv wr => ∃ k : Nat, iv = .int .i64 k ∧ k ≤ l.length ∧ Old w wr ∧ Hid (OwnE 56 wr w.heap.size ov ((itemsOf l).take k))) (fun _ iv _ => l.length - (intOf iv).toNat)
  case atStart => exact ⟨0, rfl, Nat.zero_le _, old_alloc _ _, Lib.hid (OwnE.empty (new_bk _ _ _) (Nat.le_refl _))⟩
  case round =>
    obtain ⟨k, rfl, hk, o1, HO⟩ := hrel
    by_cases hlt : k < l.length
    · obtain ⟨c, HX⟩ : ∃ c, Hid (l[k]? = some c) := ⟨l[k], Lib.hid (List.getElem?_eq_getElem hlt)⟩
      obtain ⟨b, off, rfl, hx⟩ := (HI.out.old o1).at_ HX.out
      obtain ⟨x0, x1, x2, x3, x4, x5⟩ := hx.held
      go_wp2_with (at_builtin; refine wp_its rfl (.tmp 12) (.tmp 19) 40 56 Try.underlying40 Try.infoItemR rfl (W0 := w) (o1.al _) _ ((itemsOf l).take k) [⟨c, (k : Int)⟩] rfl (HO.out.old (old_alloc _ _)) _ rfl (one_its (new_bk _ _ _)) (by simp; omega) ?_; intro v8 w8 n8 o8; refine Hid.out ?_)
      rw [itemsOf_take HX.out] at n8
      clear x0 x1 x2 x3 x4 x5 hx HO HX
      refine Lib.hid ?_
      go_wp2
      go_round
      case rel => exact ⟨k + 1, by go_num, by omega, o8, Lib.hid n8⟩
      case measure => simp [intOf]; omega
    · obtain rfl : k = l.length := by omega
      go_wp2
      go_ret
      exact ⟨_, rfl, o1, by have := HO.out; rwa [← itemsOf_len, List.take_length] at this⟩

set_option maxHeartbeats 2000000 in
theorem items_any (w : World) (v : Value) (l : List Cel) (h : Cels w v l) (hl : l.length ≤ 50000) :
    Calls Try.prog 36 #[v] w fun e w' => ∃ u, e = .returned u ∧ Old w w' ∧ OwnE 59 w' w.heap.size u (itemsOf l) := by
  obtain ⟨A, cap, rfl, hc⟩ := h.form
  have HI := Lib.hid h
  clear h
  go_enter Try.func36, Try.ntmps36
  go_wp2_with fail
  go_loopw [3, 8] (fun ov iv wr => ∃ k : Nat, iv = .int .i64 k ∧ k ≤ l.length ∧ Old w wr ∧ Hid (OwnE 59 wr w.heap.size ov ((itemsOf l).take k))) (fun _ iv _ => l.length - (intOf iv).toNat)
  case atStart => exact ⟨0, rfl, Nat.zero_le _, Old.re _, Lib.hid (OwnE.nil _ _ _)⟩
  case round =>
    obtain ⟨k, rfl, hk, o1, HO⟩ := hrel
    by_cases hlt : k < l.length
    · obtain ⟨c, HX⟩ : ∃ c, Hid (l[k]? = some c) := ⟨l[k], Lib.hid (List.getElem?_eq_getElem hlt)⟩
      obtain ⟨b, off, rfl, hx⟩ := (HI.out.old o1).at_ HX.out
      obtain ⟨x0, x1, x2, x3, x4, x5⟩ := hx.held
      go_wp2_with (at_builtin; refine wp_its rfl (.tmp 13) (.tmp 17) 32 59 Try.underlying32 Try.infoItem rfl (W0 := w) ((o1.al _).al _) _ ((itemsOf l).take k) [⟨c, (k : Int)⟩] rfl (HO.out.old ((old_alloc _ _).al _)) _ rfl (one_its (new_bk1 _ _ _ _)) (by simp; omega) ?_; intro v8 w8 n8 o8; refine Hid.out ?_)
      rw [itemsOf_take HX.out] at n8
      clear x0 x1 x2 x3 x4 x5 hx HO HX
      refine Lib.hid ?_
      go_wp2
      go_round
      case rel => exact ⟨k + 1, by go_num, by omega, o8, Lib.hid n8⟩
      case measure => simp [intOf]; omega
    · obtain rfl : k = l.length := by omega
      go_wp2
      go_ret
      exact ⟨_, rfl, o1, by have := HO.out; rwa [← itemsOf_len, List.take_length] at this⟩

set_option maxHeartbeats 2000000 in
theorem cells_any (w : World) (v : Value) (l : List Itm) (h : Itms w v l) (hl : l.length * 72 ≤ 140737488355328) :
    Calls Try.prog 27 #[v] w fun e w' => ∃ u, e = .returned u ∧ Old w w' ∧ Cels w' u (l.map (·.c)) := by
  obtain ⟨A, cap, rfl, hc⟩ := h.form
  have HI := Lib.hid h
  clear h
  go_enter Try.func27, Try.ntmps27
  go_wp2_with fail
  go_loopw [3, 4] (fun ov iv wr => ∃ k : Nat, iv = .int .i64 k ∧ k ≤ l.length ∧ Old w wr ∧ Hid (OwnC wr w.heap.size ov ((l.map (·.c)).take k))) (fun _ iv _ => l.length - (intOf iv).toNat)
  case atStart => exact ⟨0, rfl, Nat.zero_le _, old_alloc _ _, Lib.hid (OwnC.empty (new_bk _ _ _) (Nat.le_refl _))⟩
  case round =>
    obtain ⟨k, rfl, hk, o1, HO⟩ := hrel
    by_cases hlt : k < l.length
    · obtain ⟨x, HX⟩ : ∃ x, Hid (l[k]? = some x) := ⟨l[k], Lib.hid (List.getElem?_eq_getElem hlt)⟩
      have HX2 := Lib.hid (show (l.map (·.c))[k]? = some x.c by rw [List.getElem?_map, HX.out]; rfl)
      obtain ⟨b, off, rfl, hx⟩ := (HI.out.old o1).at_ HX.out
      obtain ⟨x0, x1, x2, x3, x4, x5, x6⟩ := hx.held
      go_wp2_with (at_builtin; refine wp_cels rfl (.tmp 12) (.tmp 18) rfl (W0 := w) (o1.al _) _ ((l.map (·.c)).take k) [x.c] rfl (HO.out.old (old_alloc _ _)) _ rfl (one_cel (new_bk _ _ _)) (by simp; omega) ?_; intro v8 w8 n8 o8; refine Hid.out ?_)
      rw [take_at HX2.out] at n8
      clear x0 x1 x2 x3 x4 x5 x6 hx HO HX
      refine Lib.hid ?_
      go_wp2
      go_round
      case rel => exact ⟨k + 1, by go_num, by omega, o8, Lib.hid n8⟩
      case measure => simp [intOf]; omega
    · obtain rfl : k = l.length := by omega
      go_wp2
      go_ret
      exact ⟨_, rfl, o1, by have := HO.out.cels; rwa [← List.length_map (·.c), List.take_length] at this⟩

def boundedB (l : List Cel) : Bool := (l.all fun c => decide (c.row.length ≤ 100) && decide (c.col.length ≤ 100) && decide (c.val.length ≤ 200)) && decide (l.length ≤ 80)
theorem bounded_no {l : List Cel} {k : Nat} {c : Cel} (hc : l[k]? = some c) (h : 100 < c.row.length ∨ 100 < c.col.length ∨ 200 < c.val.length) : boundedB l = false := by
  have hm := List.mem_of_getElem? hc
  unfold boundedB
  rw [Bool.and_eq_false_iff]
  left
  rw [List.all_eq_false]
  refine ⟨c, hm, ?_⟩
  simp
  omega
theorem bounded_yes {l : List Cel} (h : ∀ c ∈ l, c.row.length ≤ 100 ∧ c.col.length ≤ 100 ∧ c.val.length ≤ 200) : boundedB l = decide (l.length ≤ 80) := by
  unfold boundedB
  rw [List.all_eq_true.2 fun c hc => by simp [h c hc]]
  simp
theorem bounded_len {l : List Cel} (h : boundedB l = true) : l.length ≤ 80 := by
  unfold boundedB at h
  simp at h
  exact h.2

set_option maxHeartbeats 2000000 in
theorem bounded_any (w : World) (v : Value) (l : List Cel) (h : Cels w v l) (hl : l.length ≤ maxLen) :
    Calls Try.prog 8 #[v] w fun e w' => e = .returned (.bool (boundedB l)) ∧ w' = w := by
  obtain ⟨A, cap, rfl, hc⟩ := h.form
  have hm : l.length ≤ 9223372036854775807 := by unfold maxLen at hl; omega
  have HI := Lib.hid h
  clear h hl
  go_enter Try.func8, Try.ntmps8
  go_wp2_with fail
  go_loop [3] (fun iv => ∃ k : Nat, iv = .int .i64 k ∧ k ≤ l.length ∧ Hid (∀ c ∈ l.take k, c.row.length ≤ 100 ∧ c.col.length ≤ 100 ∧ c.val.length ≤ 200)) (fun iv => l.length - (intOf iv).toNat)
  case atStart => exact ⟨0, rfl, Nat.zero_le _, Lib.hid (by simp)⟩
  case round =>
    obtain ⟨k, rfl, hk, HB⟩ := hrel
    by_cases hlt : k < l.length
    · obtain ⟨c, HX⟩ : ∃ c, Hid (l[k]? = some c) := ⟨l[k], Lib.hid (List.getElem?_eq_getElem hlt)⟩
      obtain ⟨b, off, rfl, hx⟩ := HI.out.at_ HX.out
      obtain ⟨x0, x1, x2, x3, x4, x5⟩ := hx.held
      have HNo := Lib.hid fun h => bounded_no HX.out h
      have HYes := Lib.hid (show (c.row.length ≤ 100 ∧ c.col.length ≤ 100 ∧ c.val.length ≤ 200) → ∀ c ∈ l.take (k + 1), c.row.length ≤ 100 ∧ c.col.length ≤ 100 ∧ c.val.length ≤ 200 from fun h c' hc' => by
        rw [← take_at HX.out] at hc'
        rcases List.mem_append.1 hc' with hc' | hc'
        · exact HB.out c' hc'
        · rw [List.mem_singleton.1 hc']; exact h)
      clear HX hx
      by_cases h1 : c.row.length ≤ 100
      · by_cases h2 : c.col.length ≤ 100
        · by_cases h3 : c.val.length ≤ 200
          · go_wp2
            go_round
            case rel => exact ⟨k + 1, by go_num, by omega, Lib.hid (HYes.out ⟨h1, h2, h3⟩)⟩
            case measure => simp [intOf]; omega
          · go_wp2
            go_ret
            exact ⟨ret_bool (by rw [HNo.out (by omega)]), rfl⟩
        · go_wp2
          go_ret
          exact ⟨ret_bool (by rw [HNo.out (by omega)]), rfl⟩
      · go_wp2
        go_ret
        exact ⟨ret_bool (by rw [HNo.out (by omega)]), rfl⟩
    · obtain rfl : k = l.length := by omega
      have HE := Lib.hid (show boundedB l = decide (l.length ≤ 80) from bounded_yes (by have := HB.out; rwa [List.take_length] at this))
      clear HB
      go_wp2
      go_ret
      refine ⟨ret_bool ?_, rfl⟩
      rw [HE.out]
      simp
      try omega

def eqI (a b : Itm) : Bool := eqB a.c b.c && a.pos == b.pos
theorem eqI_self (a : Itm) : eqI a a = true := by simp [eqI, (eqB_iff a.c a.c).2 rfl]
theorem neqItem (a : Itm) (w : World) : (binOp .neq 56 (iv a) (iv a)).run Try.prog w = .ok (.bool false) w := by
  go_simp
set_option maxHeartbeats 2000000 in
theorem rsameL_any (w : World) (v u : Value) (l : List Itm) (h : Itms w v l) (h' : Itms w u l) (hl : l.length ≤ 100000) :
    Calls Try.prog 17 #[v, u] w fun e w' => e = .returned (.bool true) ∧ Old w w' := by
  obtain ⟨A, cap, rfl, hc⟩ := h.form
  obtain ⟨A', cap', rfl, hc'⟩ := h'.form
  have HI := Lib.hid h
  have HI' := Lib.hid h'
  clear h h'
  go_enter Try.func17, Try.ntmps17
  go_wp2_with fail
  go_loopw [5] (fun iv wr => ∃ k : Nat, iv = .int .i64 k ∧ k ≤ l.length ∧ Old w wr) (fun iv _ => l.length - (intOf iv).toNat)
  case atStart => exact ⟨0, rfl, Nat.zero_le _, Old.re _⟩
  case round =>
    obtain ⟨k, rfl, hk, o1⟩ := hrel
    by_cases hlt : k < l.length
    · obtain ⟨x, HX⟩ : ∃ x, Hid (l[k]? = some x) := ⟨l[k], Lib.hid (List.getElem?_eq_getElem hlt)⟩
      have HE := Lib.hid fun W => neqItem x W
      obtain ⟨b, off, rfl, hx⟩ := (HI.out.old o1).at_ HX.out
      obtain ⟨b', off', rfl, hy⟩ := (HI'.out.old o1).at_ HX.out
      obtain ⟨x0, x1, x2, x3, x4, x5, x6⟩ := hx.held
      obtain ⟨y0, y1, y2, y3, y4, y5, y6⟩ := hy.held
      have hb1 : (0 : Int) ≤ (k : Int) := by omega
      have hb2 : (k : Int) < (l.length : Int) := by omega
      go_upto_region 6 with (fail)
      have he := HE.out
      go_quiet (fail)
      clear x0 x1 x2 x3 x4 x5 x6 y0 y1 y2 y3 y4 y5 y6 hx hy he
      go_wp2
      go_round
      case rel => exact ⟨k + 1, by go_num, by omega, o1.dn _⟩
      case measure => simp [intOf]; omega
    · obtain rfl : k = l.length := by omega
      go_wp2
      go_ret
      exact ⟨rfl, o1⟩
end Go.Proofs.Ytbccpplpfcfboaa
