/-
  without and with of the document's own disk. Conditions: the files lie in memory; lengths as written.
-/
import Derived.Test.YtilimfbjkgeciaaDoorRCra
namespace Go.Proofs.YtilimfbjkgeciaaDoor
set_option maxRecDepth 100000
open Go.RowKit

theorem pdel_take (L : List Pf) (s : List UInt8) (j : Nat) (h : j < L.length) : pdel s (L.take (j + 1)) = pdel s (L.take j) ++ (if L[j].name = s then [] else [L[j]]) := by
  unfold pdel
  rw [List.take_succ_eq_append_getElem h, List.filter_append]
  congr 1
  by_cases e : L[j].name = s
  · simp [e]
  · simp [e]
theorem fls_one {w : World} {g : Nat} {x : Pf} (h : Bk w g 83 (pcl x)) : Fls w (.slice (some ⟨g, 0, none⟩) 1 1) [x] := by
  refine .inr ⟨⟨g, 0, none⟩, 1, rfl, Nat.le_refl _, fun _ => ⟨g, 0, rfl, fun i y hy => ?_⟩⟩
  cases i with
  | zero =>
    simp at hy
    subst hy
    exact ⟨h.at_ 0 rfl, h.at_ 1 rfl, h.at_ 2 rfl⟩
  | succ i => simp at hy
theorem pdel_le (L : List Pf) (s : List UInt8) : (pdel s L).length ≤ L.length := List.length_filter_le _ _
set_option maxHeartbeats 4000000 in
theorem rwithout_any (A : Option Addr) (c : Nat) (L : List Pf) (s : List UInt8) (hl : L.length ≤ 1000) (w : World) (h : Flt w (.slice A L.length c) L) :
    Calls Tryd.prog 80 #[.slice A L.length c, .string (B s)] w fun e w' => ∃ A' c', e = .returned (.slice A' (pdel s L).length c') ∧ Flt w' (.slice A' (pdel s L).length c') (pdel s L) ∧ Old w w' := by
  have hlc := h.1.room
  have hn0 := OwnF.empty (base := w.heap.size) (new_bk w 83 #[]) (Nat.le_refl _)
  have HF := Lib.hid h.1
  clear h
  go_enter Tryd.func80, Tryd.ntmps80
  go_wp2_with fail
  go_loopw [5, 6] (fun v i wr => ∃ j : Nat, j ≤ L.length ∧ i = .int .i64 j ∧ OwnF wr w.heap.size v (pdel s (L.take j)) ∧ Old w wr) (fun _ i _ => L.length - (intOf i).toNat)
  case atStart => exact ⟨0, Nat.zero_le _, rfl, hn0, old_alloc _ _⟩
  case round =>
    clear hn0
    obtain ⟨j, hj, rfl, hO, ho⟩ := hrel
    have hml := pdel_le (L.take j) s
    rw [List.length_take] at hml
    by_cases hlt : j < L.length
    · obtain ⟨b, off, rfl, a0, a1, a2⟩ := (HF.out.old ho).at_ (List.getElem?_eq_getElem hlt)
      have HT := Lib.hid (pdel_take L s j hlt)
      generalize L[j] = x at *
      obtain ⟨xn, xs, xk⟩ := x
      simp only at a0 a1 a2 HT
      generalize hM : pdel s (L.take j) = M at *
      by_cases he : xn = s
      · have hbe : (xn == s) = true := by simpa using he
        have HX := Lib.hid (show pdel s (L.take (j + 1)) = M by rw [HT.out, if_pos he, List.append_nil])
        clear he HT hM
        go_wp2
        go_roundw
        case rel => exact ⟨j + 1, by omega, by go_num, by rw [HX.out]; exact hO, ho⟩
        case measure => simp [intOf]; omega
      · have hbe : (xn == s) = false := by simpa using he
        have HX := Lib.hid (show pdel s (L.take (j + 1)) = M ++ [⟨xn, xs, xk⟩] by rw [HT.out, if_neg he])
        clear he HT hM
        have HN := Lib.hid (fls_one (x := ⟨xn, xs, xk⟩) (new_bk wr 83 (pcl ⟨xn, xs, xk⟩)))
        have hO1 := hO.old (old_alloc wr (.cells (pcl ⟨xn, xs, xk⟩) 83))
        have ho1 := ho.al (.cells (pcl ⟨xn, xs, xk⟩) 83)
        have hml2 : (M.length + 1) * 40 ≤ 140737488355328 := by omega
        go_wp2_with (at_builtin; refine wp_fls rfl (.tmp 21) (.tmp 26) rfl (W0 := w) ho1 _ M [⟨xn, xs, xk⟩] rfl hO1 _ rfl HN.out hml2 ?_; intro v8 w8 n8 o8 g8 f8; refine Hid.out ?_)
        obtain ⟨A8, c8, rfl, -⟩ := n8.fls.form
        refine Lib.hid ?_
        go_wp2
        go_roundw
        case rel => exact ⟨j + 1, by omega, by go_num, by rw [HX.out]; exact n8, o8⟩
        case measure => simp [intOf]; omega
    · rw [List.take_of_length_le (by omega)] at hO
      obtain ⟨A8, c8, rfl, -⟩ := hO.fls.form
      go_wp2
      go_ret
      exact ⟨A8, c8, rfl, hO.flt, ho⟩

/-- No file of these has a greater name. -/
def Top (L : List Pf) (n : List UInt8) : Prop := ∀ g ∈ L, Op.bytesLess g.name n = true
set_option maxHeartbeats 4000000 in
theorem rwith_any (A : Option Addr) (c : Nat) (L : List Pf) (f : Pf) (hl : L.length ≤ 1000) (hT : Top L f.name) (w : World) (h : Flt w (.slice A L.length c) L) :
    Calls Tryd.prog 81 #[.slice A L.length c, .agg (pcl f)] w fun e w' => ∃ A' c', e = .returned (.slice A' (L ++ [f]).length c') ∧ Flt w' (.slice A' (L ++ [f]).length c') (L ++ [f]) ∧ Old w w' := by
  have hlc := h.1.room
  obtain ⟨fn, fs, fk⟩ := f
  have hb0 := new_bk w 83 (pcl ⟨fn, fs, fk⟩)
  have o0 := old_alloc w (.cells (pcl ⟨fn, fs, fk⟩) 83)
  have hsz : (w.alloc (.cells (pcl ⟨fn, fs, fk⟩) 83)).heap.size = w.heap.size + 1 := by simp
  have HF := Lib.hid (h.1.old o0)
  clear h
  go_enter Tryd.func81, Tryd.ntmps81
  go_wp2_with fail
  generalize w.alloc (.cells (pcl ⟨fn, fs, fk⟩) 83) = W0 at *
  have hn0 := OwnF.empty (base := W0.heap.size) (new_bk' W0 83 #[] (w.heap.size + 1) hsz.symm) (by omega)
  have HB0 := Lib.hid hb0
  have HO0 := Lib.hid o0
  clear hb0 o0 hsz
  go_loopw [5, 6, 7] (fun v q i wr => ∃ j : Nat, j ≤ L.length ∧ i = .int .i64 j ∧ q = .bool false ∧ OwnF wr W0.heap.size v (L.take j) ∧ Old W0 wr) (fun _ _ i _ => L.length - (intOf i).toNat)
  case atStart => exact ⟨0, Nat.zero_le _, rfl, rfl, hn0, old_alloc _ _⟩
  case round =>
    clear hn0
    obtain ⟨j, hj, rfl, rfl, hO, ho⟩ := hrel
    have hb := HB0.out.old ho
    by_cases hlt : j < L.length
    · obtain ⟨b, off, rfl, a0, a1, a2⟩ := (HF.out.old ho).at_ (List.getElem?_eq_getElem hlt)
      have hless := hT L[j] (List.getElem_mem hlt)
      have HT := Lib.hid (List.take_succ_eq_append_getElem hlt)
      have hml : (L.take j).length = j := by rw [List.length_take]; omega
      generalize L[j] = x at *
      obtain ⟨xn, xs, xk⟩ := x
      simp only at a0 a1 a2 hless
      generalize hM : L.take j = M at *
      have HM := Lib.hid hml
      have hml2 : (M.length + 1) * 40 ≤ 140737488355328 := by omega
      clear hM hml
      have e0 : wr.cell? ⟨w.heap.size, 0, none⟩ = some (.string (B fn)) := hb.at_ 0 rfl
      have e1 : wr.cell? ⟨w.heap.size, 1, none⟩ = some (.string (B fs)) := hb.at_ 1 rfl
      have e2 : wr.cell? ⟨w.heap.size, 2, none⟩ = some (.int .i64 (fk : Int)) := hb.at_ 2 rfl
      go_wp2_with fail
      go_quiet (fail)
      have ho' : Old W0 (wr.drewN nq) := ho.dn _
      have hO' : OwnF (wr.drewN nq) W0.heap.size _ M := hO.old ((Old.re wr).dn _)
      have a0' : (wr.drewN nq).cell? ⟨b, off + j * 3, none⟩ = some (.string (B xn)) := a0
      have a1' : (wr.drewN nq).cell? ⟨b, off + j * 3 + 1, none⟩ = some (.string (B xs)) := a1
      have a2' : (wr.drewN nq).cell? ⟨b, off + j * 3 + 2, none⟩ = some (.int .i64 (xk : Int)) := a2
      clear a0 a1 a2 e0 e1 e2 hb ho hO hless
      generalize wr.drewN nq = W at *
      have HN := Lib.hid (fls_one (x := ⟨xn, xs, xk⟩) (new_bk W 83 (pcl ⟨xn, xs, xk⟩)))
      have hO1 := hO'.old (old_alloc W (.cells (pcl ⟨xn, xs, xk⟩) 83))
      have ho1 := ho'.al (.cells (pcl ⟨xn, xs, xk⟩) 83)
      go_wp2_with (at_builtin; refine wp_fls rfl (.tmp 31) (.tmp 36) rfl (W0 := W0) ho1 _ M [⟨xn, xs, xk⟩] rfl hO1 _ rfl HN.out hml2 ?_; intro v8 w8 n8 o8 g8 f8; refine Hid.out ?_)
      obtain ⟨A8, c8, rfl, -⟩ := n8.fls.form
      refine Lib.hid ?_
      go_wp2
      go_roundw
      case rel => exact ⟨j + 1, by omega, by go_num, rfl, by rw [HT.out]; exact n8, o8⟩
      case measure => simp [intOf]; omega
    · rw [List.take_of_length_le (by omega)] at hO
      have HN := Lib.hid (fls_one (x := ⟨fn, fs, fk⟩) (new_bk wr 83 (pcl ⟨fn, fs, fk⟩)))
      have hO1 := hO.old (old_alloc wr (.cells (pcl ⟨fn, fs, fk⟩) 83))
      have ho1 := ho.al (.cells (pcl ⟨fn, fs, fk⟩) 83)
      have hml2 : (L.length + 1) * 40 ≤ 140737488355328 := by omega
      have e0 : wr.cell? ⟨w.heap.size, 0, none⟩ = some (.string (B fn)) := hb.at_ 0 rfl
      have e1 : wr.cell? ⟨w.heap.size, 1, none⟩ = some (.string (B fs)) := hb.at_ 1 rfl
      have e2 : wr.cell? ⟨w.heap.size, 2, none⟩ = some (.int .i64 (fk : Int)) := hb.at_ 2 rfl
      go_wp2_with (at_builtin; refine wp_fls rfl (.tmp 40) (.tmp 42) rfl (W0 := W0) ho1 _ L [⟨fn, fs, fk⟩] rfl hO1 _ rfl HN.out hml2 ?_; intro v8 w8 n8 o8 g8 f8; refine Hid.out ?_)
      obtain ⟨A8, c8, rfl, -⟩ := n8.fls.form
      refine Lib.hid ?_
      go_wp2
      go_ret
      exact ⟨A8, c8, rfl, n8.flt, HO0.out.tr o8⟩
end Go.Proofs.YtilimfbjkgeciaaDoor
