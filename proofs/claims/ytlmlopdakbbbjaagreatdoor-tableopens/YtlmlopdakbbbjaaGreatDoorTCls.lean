/-
  Cells of an opened file. Conditions: lengths as written.
-/
import Derived.Test.YtlmlopdakbbbjaaGreatDoorTRow
namespace Go.Proofs.YtlmlopdakbbbjaaGreatDoor
open Go.RowKit

def zc : Cel := ⟨[], [], 0, 0, false, []⟩
theorem flat_cons (c : Cel) (l : List Cel) : flat (c :: l) = (cells c).toList ++ flat l := by simp [flat]
/-- make([]Cell, n). -/
theorem madeC (N : Nat) (hN : N ≤ 100000) (w : World) : (Instr.makeSlice 22 (.int .i64 N) (.int .i64 N)).run Tryz.prog w = .ok (.slice (some ⟨w.heap.size, 0, none⟩) N N) (w.alloc (.cells (flat (List.replicate N zc)).toArray 34)) := by
  obtain ⟨i0, hi, hz0, hz1, hz2⟩ := info_parts Tryz.infoCell
  have hr := run_make (P := Tryz.prog) w 22 34 i0 (.agg zeroCell) Tryz.underlying22 hi hz0 .i64 .i64 N N (by omega) (by omega) (by rw [hz2]; omega) (by omega)
  rw [hr, Int.toNat_natCast]
  have e : madeCells (Value.agg zeroCell).cells (N * i0.size) = (flat (List.replicate N zc)).toArray := by
    rw [hz1]
    apply Array.ext_getElem?
    intro j
    by_cases hj : j < N * 6
    · have e1 := flat_at (List.replicate N zc) (j / 6) (j % 6) zc (by rw [List.getElem?_replicate, if_pos (by omega)]) (by omega)
      rw [show j / 6 * 6 + j % 6 = j by omega] at e1
      rw [show (flat (List.replicate N zc)).toArray[j]? = (flat (List.replicate N zc))[j]? by simp, e1]
      have e6 : j % 6 = 0 ∨ j % 6 = 1 ∨ j % 6 = 2 ∨ j % 6 = 3 ∨ j % 6 = 4 ∨ j % 6 = 5 := by omega
      rcases e6 with g | g | g | g | g | g <;> (simp [madeCells, hj, Value.cells, g]; rfl)
    · rw [show (flat (List.replicate N zc)).toArray[j]? = none by rw [List.getElem?_toArray]; exact List.getElem?_eq_none (by rw [flat_len, List.length_replicate]; omega)]
      simp [madeCells, hj]
  rw [e]
theorem set6 (A R : List Value) (z0 z1 z2 z3 z4 z5 u0 u1 u2 u3 u4 u5 : Value) :
    ((((((A ++ z0 :: z1 :: z2 :: z3 :: z4 :: z5 :: R).set A.length u0).set (A.length + 1) u1).set (A.length + 2) u2).set (A.length + 3) u3).set (A.length + 4) u4).set (A.length + 5) u5 = A ++ u0 :: u1 :: u2 :: u3 :: u4 :: u5 :: R := by
  induction A with
  | nil => rfl
  | cons a A ih =>
    simp only [List.cons_append, List.length_cons, List.set_cons_succ, Nat.add_right_comm _ 1]
    rw [ih]
/-- The cells so far, and nothing behind them. -/
def celsTo (q : Nat) (l : List Cel) (k : Nat) : List Cel := (l.take k).map (overC q) ++ List.replicate (l.length - k) zc
theorem celsTo_set (q : Nat) (l : List Cel) (k : Nat) (h : k < l.length) (c : Cel) (hc : c = overC q l[k]) :
    ((((((flat (celsTo q l k)).toArray.setIfInBounds (k * 6) (.string (B c.row))).setIfInBounds (k * 6 + 1) (.string (B c.col))).setIfInBounds (k * 6 + 2) (.int .u64 c.ts)).setIfInBounds (k * 6 + 3) (.int .u64 c.seq)).setIfInBounds (k * 6 + 4) (.bool c.del)).setIfInBounds (k * 6 + 5) (.string (B c.val)) = (flat (celsTo q l (k + 1))).toArray := by
  have h1 : (flat ((l.take k).map (overC q))).length = k * 6 := by rw [flat_len, List.length_map, List.length_take]; omega
  have e1 : celsTo q l k = (l.take k).map (overC q) ++ zc :: List.replicate (l.length - (k + 1)) zc := by
    unfold celsTo
    rw [show l.length - k = (l.length - (k + 1)) + 1 by omega, List.replicate_succ]
  have e2 : celsTo q l (k + 1) = (l.take k).map (overC q) ++ c :: List.replicate (l.length - (k + 1)) zc := by
    unfold celsTo
    rw [List.take_succ_eq_append_getElem h, List.map_append, hc]
    simp
  rw [e1, e2]
  have f : ∀ (a b : List Cel), flat (a ++ b) = flat a ++ flat b := fun a b => flat_app a b
  rw [f, f, flat_cons, flat_cons]
  generalize flat ((l.take k).map (overC q)) = A at *
  generalize flat (List.replicate (l.length - (k + 1)) zc) = R
  simp only [List.setIfInBounds_toArray]
  rw [← h1]
  congr 1
  exact set6 A R _ _ _ _ _ _ _ _ _ _ _ _
theorem far6 {W : World} {g G o : Nat} {t : TypeId} {cs : Array Value} (h : Bk W g t cs) (hne : g ≠ G) (u0 u1 u2 u3 u4 u5 : Value) :
    Bk ((((((W.setCell ⟨G, o, none⟩ u0).setCell ⟨G, o + 1, none⟩ u1).setCell ⟨G, o + 2, none⟩ u2).setCell ⟨G, o + 3, none⟩ u3).setCell ⟨G, o + 4, none⟩ u4).setCell ⟨G, o + 5, none⟩ u5) g t cs :=
  ((((((h.far hne _).far hne _).far hne _).far hne _).far hne _).far hne _)
theorem old6o {w W : World} {g o : Nat} (h : Old w W) (hg : w.heap.size ≤ g) (u0 u1 u2 u3 u4 u5 : Value) :
    Old w ((((((W.setCell ⟨g, o, none⟩ u0).setCell ⟨g, o + 1, none⟩ u1).setCell ⟨g, o + 2, none⟩ u2).setCell ⟨g, o + 3, none⟩ u3).setCell ⟨g, o + 4, none⟩ u4).setCell ⟨g, o + 5, none⟩ u5) :=
  ((((((h.st hg _).st hg _).st hg _).st hg _).st hg _).st hg _)
theorem put6o {W : World} {g o : Nat} {t : TypeId} {cs : Array Value} (h : Bk W g t cs) (u0 u1 u2 u3 u4 u5 : Value) :
    Bk ((((((W.setCell ⟨g, o, none⟩ u0).setCell ⟨g, o + 1, none⟩ u1).setCell ⟨g, o + 2, none⟩ u2).setCell ⟨g, o + 3, none⟩ u3).setCell ⟨g, o + 4, none⟩ u4).setCell ⟨g, o + 5, none⟩ u5) g t ((((((cs.setIfInBounds o u0).setIfInBounds (o + 1) u1).setIfInBounds (o + 2) u2).setIfInBounds (o + 3) u3).setIfInBounds (o + 4) u4).setIfInBounds (o + 5) u5) :=
  ((((((h.set_ _ _).set_ _ _).set_ _ _).set_ _ _).set_ _ _).set_ _ _)
theorem celsTo_at (q : Nat) (l : List Cel) (k : Nat) (h : k < l.length) (i : Nat) (hi : i < 6) : (flat (celsTo q l k)).toArray[k * 6 + i]? = (cells zc).toList[i]? := by
  rw [List.getElem?_toArray]
  refine flat_at _ k i zc ?_ hi
  unfold celsTo
  rw [List.getElem?_append_right (by simp; omega), List.getElem?_replicate, if_pos (by simp; omega)]

set_option maxRecDepth 100000 in
set_option maxHeartbeats 8000000 in
theorem cells_any (g : Nat) (l : List Cel) (q : Nat) (w : World) (h : Tbl w g l q) (hl : l.length ≤ 2000) :
    Calls Tryz.prog 14 #[.pointer (some ⟨g, 0, none⟩)] w fun e w' => ∃ v', e = .returned v' ∧ OwnC w' w.heap.size v' (l.map (overC q)) ∧ Old w w' := by
  obtain ⟨v, hB0, A, cap, rfl, hcap, hC⟩ := h
  generalize ((allB l).length : Int) = x0 at *
  generalize ((idx (texts l)).length : Int) = x1 at *
  generalize ((put (filt l)).length : Int) = x2 at *
  generalize filt l = x5 at *
  have hg1 := hB0.lt
  have hmk := madeC l.length (by omega) w
  have e0 : celsTo q l 0 = List.replicate l.length zc := by simp [celsTo]
  have hN := new_bk w 34 (flat (List.replicate l.length zc)).toArray
  have o0 := old_alloc w (.cells (flat (List.replicate l.length zc)).toArray 34)
  rw [← e0] at hmk hN o0
  clear e0
  obtain ⟨z0, z1, z2, z3, z4, z5⟩ := hB0.six
  obtain ⟨y0, y1, y2, y3, y4, y5⟩ := (hB0.old o0).six
  go_enter Tryz.func14, Tryz.ntmps14
  go_wp2_with fail
  generalize w.alloc (.cells (flat (celsTo q l 0)).toArray 34) = w1 at *
  clear hmk z0 z1 z2 z3 z4 z5 y0 y1 y2 y3 y4 y5
  go_loopw [17] (fun i wr => ∃ k : Nat, k ≤ l.length ∧ i = .int .i64 k ∧ Bk wr w.heap.size 34 (flat (celsTo q l k)).toArray ∧ Old w wr) (fun i _ => l.length - (intOf i).toNat)
  case atStart => exact ⟨0, Nat.zero_le _, rfl, hN, o0⟩
  case round =>
    obtain ⟨k, hk, rfl, hG, hw⟩ := hrel
    by_cases hlt : k < l.length
    · obtain ⟨b, off, rfl, hCA⟩ := hC (by rintro rfl; simp at hlt)
      have hx := (hCA.at_ k hlt).old hw
      have HSet := fun c hc => Lib.hid (celsTo_set q l k hlt c hc)
      have HAt := Lib.hid (celsTo_at q l k hlt)
      generalize l[k] = d at *
      obtain ⟨a0, a1, a2, a3, a4, a5⟩ := hx.held
      have i1 : (k : Int) < (l.length : Int) := by omega
      have ow := hw.al (.cells (cells d) 34)
      have hcz := new_bk wr 34 (cells d)
      have hTz := (hB0.old hw).alloc (.cells (cells d) 34)
      have hGz := hG.alloc (.cells (cells d) 34)
      have hgl := hG.lt
      go_upto_region 5 with (fail)
      generalize wr.alloc (.cells (cells d) 34) = wy at *
      have hcG : wr.heap.size ≠ w.heap.size := by omega
      have hgG : g ≠ w.heap.size := by omega
      generalize wr.heap.size = gc at *
      obtain ⟨d', hd'⟩ : ∃ d', d' = overC q d := ⟨_, rfl⟩
      have HS := HSet d' hd'
      have hOV : ∀ W, Calls Tryz.prog 45 #[.agg #[.int .u64 x0, .int .u64 x1, .int .u64 x2, .int .u64 q], cv d] W fun e w' => e = .returned (cv d') ∧ Old W w' := fun W => by rw [hd']; exact over_any x0 x1 x2 q q rfl d W
      clear a0 a1 a2 a3 a4 a5 hx hd' HSet hcap hG hgl
      go_region_held_law (fun W => W.cell? ⟨g, 0, none⟩ = some (.int .u64 x0) ∧ W.cell? ⟨g, 1, none⟩ = some (.int .u64 x1) ∧ W.cell? ⟨g, 2, none⟩ = some (.int .u64 x2) ∧ W.cell? ⟨g, 3, none⟩ = some (.int .u64 q) ∧ W.cell? ⟨gc, 0, none⟩ = some (.string (B d.row)) ∧ W.cell? ⟨gc, 1, none⟩ = some (.string (B d.col)) ∧ W.cell? ⟨gc, 2, none⟩ = some (.int .u64 d.ts) ∧ W.cell? ⟨gc, 3, none⟩ = some (.int .u64 d.seq) ∧ W.cell? ⟨gc, 4, none⟩ = some (.bool d.del) ∧ W.cell? ⟨gc, 5, none⟩ = some (.string (B d.val)))
        (first
          | with_reducible exact Bk.limbs (far6 hT5 hgG _ _ _ _ _ _) (far6 hc5 hcG _ _ _ _ _ _)
          | with_reducible exact Bk.limbs (far6 hT5 hgG _ _ _ _ _ _).drew (far6 hc5 hcG _ _ _ _ _ _).drew
          | exact Bk.limbs (hTz.old (by repeat (first | with_reducible exact Old.re _ | with_reducible assumption | with_reducible apply Old.al | with_reducible apply Old.dr | with_reducible apply Old.dn))) (hcz.old (by repeat (first | with_reducible exact Old.re _ | with_reducible assumption | with_reducible apply Old.al | with_reducible apply Old.dr | with_reducible apply Old.dn))))
        ((go_at_call 45; refine (hOV _).mono ?_; rintro e w5 ⟨rfl, k5⟩; have o5 : Old wy w5 := Old.tr (by repeat (first | with_reducible exact Old.re _ | with_reducible assumption | with_reducible apply Old.al | with_reducible apply Old.dr | with_reducible apply Old.dn)) k5; clear k5; have hG5 := hGz.old o5; have hT5 := hTz.old o5; have hc5 := hcz.old o5; have f5 := hG5.fr; have y0 := (hG5.cell (k * 6 + 0)).trans (HAt.out 0 (by decide)); have y1 := (hG5.cell (k * 6 + 1)).trans (HAt.out 1 (by decide)); have y2 := (hG5.cell (k * 6 + 2)).trans (HAt.out 2 (by decide)); have y3 := (hG5.cell (k * 6 + 3)).trans (HAt.out 3 (by decide)); have y4 := (hG5.cell (k * 6 + 4)).trans (HAt.out 4 (by decide)); have y5 := (hG5.cell (k * 6 + 5)).trans (HAt.out 5 (by decide)); simp only [Nat.add_zero, List.getElem?_cons_zero, List.getElem?_cons_succ] at y0 y1 y2 y3 y4 y5))
      have hG6 := put6o (o := k * 6) hG5 (.string (B d'.row)) (.string (B d'.col)) (.int .u64 d'.ts) (.int .u64 d'.seq) (.bool d'.del) (.string (B d'.val))
      rw [HS.out] at hG6
      have o6 := old6o (o := k * 6) (ow.tr o5) (Nat.le_refl _) (.string (B d'.row)) (.string (B d'.col)) (.int .u64 d'.ts) (.int .u64 d'.seq) (.bool d'.del) (.string (B d'.val))
      clear y0 y1 y2 y3 y4 y5 f5 hG5 hT5 hc5 o5 hOV HS
      generalize ((((((w5.setCell ⟨w.heap.size, k * 6, none⟩ (.string (B d'.row))).setCell ⟨w.heap.size, k * 6 + 1, none⟩ (.string (B d'.col))).setCell ⟨w.heap.size, k * 6 + 2, none⟩ (.int .u64 d'.ts)).setCell ⟨w.heap.size, k * 6 + 3, none⟩ (.int .u64 d'.seq)).setCell ⟨w.heap.size, k * 6 + 4, none⟩ (.bool d'.del)).setCell ⟨w.heap.size, k * 6 + 5, none⟩ (.string (B d'.val))) = w6 at *
      go_wp2
      go_roundw
      case rel => exact ⟨k + 1, by omega, by go_num, hG6, o6⟩
      case measure => simp [intOf]; omega
    · have e : k = l.length := by omega
      subst e
      go_wp2
      go_ret
      refine ⟨_, rfl, ?_, hw⟩
      have e2 : celsTo q l l.length = l.map (overC q) := by simp [celsTo]
      rw [e2] at hG
      refine ⟨flat_len _, .inr ⟨w.heap.size, l.length, _, by simp, Nat.le_refl _, hG, by simp, by unfold maxLen; omega, by simp [flat_len], ?_⟩⟩
      rw [List.take_of_length_le (by simp [flat_len])]
end Go.Proofs.YtlmlopdakbbbjaaGreatDoor
