/-
  Sorted of the code and of the reference. Conditions: lengths as written.
-/
import Derived.Test.YtbccpplpfcfboaaRLst
import Derived.BigRegion
namespace Go.Proofs.Ytbccpplpfcfboaa
open Go.RowKit

def sortedB : List Itm → Bool
  | x :: y :: l => (decide (cmpI x y < 0) && !sameI x y) && sortedB (y :: l)
  | _ => true
theorem sorted_short (l : List Itm) (h : l.length ≤ 1) : sortedB l = true := by
  match l, h with
  | [], _ => rfl
  | [x], _ => rfl
theorem sorted_strict : ∀ l : List Itm, Strict l → sortedB l = true
  | [], _ => rfl
  | [x], _ => rfl
  | x :: y :: l, h => by
    obtain ⟨h1, h2⟩ := List.pairwise_cons.1 h
    have hk := h1 y List.mem_cons_self
    have h3 : cmpI x y < 0 := by rcases cmpI_cases x y with k | k | k | k | k <;> omega
    have h4 : sameI x y = false := (sameI_no _ _).2 (by omega)
    rw [sortedB, sorted_strict (y :: l) h2]
    simp [h3, h4]
theorem sorted_go {l : List Itm} {k : Nat} {x y : Itm} {r : List Itm} (h : sortedB l = sortedB (l.drop k)) (hd : l.drop k = x :: y :: r) (h1 : cmpI x y < 0) (h2 : sameI x y = false) (hd1 : l.drop (k + 1) = y :: r) : sortedB l = sortedB (l.drop (k + 1)) := by
  rw [h, hd, hd1, sortedB]
  simp [h1, h2]
theorem sorted_no {l : List Itm} {k : Nat} {x y : Itm} {r : List Itm} (h : sortedB l = sortedB (l.drop k)) (hd : l.drop k = x :: y :: r) (h1 : ¬ cmpI x y < 0 ∨ sameI x y = true) : sortedB l = false := by
  rw [h, hd, sortedB]
  rcases h1 with h1 | h1 <;> simp [h1]

theorem Bk.seven {w : World} {g : Nat} {t : TypeId} {x : Itm} (h : Bk w g t (icells x)) : w.cell? ⟨g, 0, none⟩ = some (.string (B x.c.row)) ∧ w.cell? ⟨g, 1, none⟩ = some (.string (B x.c.col)) ∧ w.cell? ⟨g, 2, none⟩ = some (.int .u64 x.c.ts) ∧ w.cell? ⟨g, 3, none⟩ = some (.int .u64 x.c.seq) ∧ w.cell? ⟨g, 4, none⟩ = some (.bool x.c.del) ∧ w.cell? ⟨g, 5, none⟩ = some (.string (B x.c.val)) ∧ w.cell? ⟨g, 6, none⟩ = some (.int .i64 x.pos) := ⟨h.cell 0, h.cell 1, h.cell 2, h.cell 3, h.cell 4, h.cell 5, h.cell 6⟩
set_option maxRecDepth 100000 in
set_option maxHeartbeats 4000000 in
theorem sorted_any (w : World) (v : Value) (l : List Itm) (h : Itms w v l) (hl : l.length ≤ 100000) :
    Calls Try.prog 39 #[v] w fun e w' => e = .returned (.bool (sortedB l)) ∧ Old w w' := by
  obtain ⟨A, cap, rfl, hc⟩ := h.form
  have HI := Lib.hid h
  clear h
  go_enter Try.func39, Try.ntmps39
  go_wp2_with fail
  go_loopw [3] (fun i wr => ∃ k : Nat, k ≤ l.length ∧ i = .int .i64 ((k : Int) + 1) ∧ Old w wr ∧ Hid (sortedB l = sortedB (l.drop k))) (fun i _ => 100001 - (intOf i).toNat)
  case atStart => exact ⟨0, by omega, rfl, Old.re _, Lib.hid rfl⟩
  case round =>
    obtain ⟨k, hk, rfl, o1, HR⟩ := hrel
    by_cases h1 : k + 1 < l.length
    · obtain ⟨x, y, HX⟩ : ∃ x y, Hid (l[k]? = some x ∧ l[k + 1]? = some y ∧ l.drop k = x :: y :: l.drop (k + 2) ∧ l.drop (k + 1) = y :: l.drop (k + 2)) :=
        ⟨l[k], l[k + 1], Lib.hid ⟨List.getElem?_eq_getElem (by omega), List.getElem?_eq_getElem h1, by rw [List.drop_eq_getElem_cons (by omega), List.drop_eq_getElem_cons (i := k + 1) (by omega)], List.drop_eq_getElem_cons (by omega)⟩⟩
      obtain ⟨b, off, rfl, hx⟩ := (HI.out.old o1).at_ HX.out.1
      obtain ⟨b', off', hb, hy⟩ := (HI.out.old o1).at_ HX.out.2.1
      injection hb with hb
      injection hb with hb1 hb2
      subst hb1 hb2
      have HXX := Lib.hid (And.intro hx hy)
      clear hx hy
      go_upto_region 4 with (fail)
      have hlt : b < wr.heap.size := World.block_lt_of_cell? wr ⟨b, _, none⟩ HXX.out.1.a0
      have hne1 : ¬ b = wr.heap.size := by omega
      have hne2 : ¬ b = wr.heap.size + 1 := by omega
      obtain ⟨x0, x1, x2, x3, x4, x5, x6⟩ := HXX.out.1.held
      obtain ⟨y0, y1, y2, y3, y4, y5, y6⟩ := HXX.out.2.held
      go_region
      · have bx := ((new_bk wr 59 (icells x)).alloc (.cells (icells y) 59)).drew
        have by_ := (new_bk1 wr (.cells (icells x) 59) 59 (icells y)).drew
        have o2 := ((o1.al (.cells (icells x) 59)).al (.cells (icells y) 59)).dr
        generalize ((wr.alloc (.cells (icells x) 59)).alloc (.cells (icells y) 59)).drew = W1 at *
        clear x0 x1 x2 x3 x4 x5 x6 y0 y1 y2 y3 y4 y5 y6 HXX o1 hne1 hne2
        obtain ⟨x0, x1, x2, x3, x4, x5, x6⟩ := bx.seven
        obtain ⟨y0, y1, y2, y3, y4, y5, y6⟩ := by_.seven
        go_wp2_with fail
        refine (against_any x y _).mono ?_
        rintro e w2 ⟨rfl, k2⟩
        have bx := bx.old k2
        have by_ := by_.old k2
        have o3 := o2.tr k2
        clear x0 x1 x2 x3 x4 x5 x6 y0 y1 y2 y3 y4 y5 y6 o2 k2
        by_cases hxy : cmpI x y < 0
        · have hdec : decide ((0 : Int) ≤ cmpI x y) = false := by simpa using hxy
          obtain ⟨x0, x1, x2, x3, x4, x5, x6⟩ := bx.seven
          obtain ⟨y0, y1, y2, y3, y4, y5, y6⟩ := by_.seven
          go_wp2_with fail
          refine (sameAs_any x y _).mono ?_
          rintro e w3 ⟨rfl, k3⟩
          have o4 := o3.tr k3
          clear x0 x1 x2 x3 x4 x5 x6 y0 y1 y2 y3 y4 y5 y6 bx by_ k3 hdec
          cases hsm : sameI x y with
          | true =>
            have HF := Lib.hid (sorted_no HR.out HX.out.2.2.1 (.inr hsm))
            clear hsm
            go_wp2
            go_ret
            exact ⟨ret_bool HF.out.symm, o4⟩
          | false =>
            have HF := Lib.hid (sorted_go HR.out HX.out.2.2.1 hxy hsm HX.out.2.2.2)
            clear hsm
            go_wp2
            go_roundw
            case rel => exact ⟨k + 1, by omega, by go_num, o4, HF⟩
            case measure => simp [intOf]; omega
        · have hdec : decide ((0 : Int) ≤ cmpI x y) = true := by simp; omega
          have HF := Lib.hid (sorted_no HR.out HX.out.2.2.1 (.inl hxy))
          clear bx by_ hxy
          go_wp2
          go_ret
          exact ⟨ret_bool HF.out.symm, o3⟩
      · have bx := (new_bk1 wr (.cells (icells y) 59) 59 (icells x)).drew
        have by_ := ((new_bk wr 59 (icells y)).alloc (.cells (icells x) 59)).drew
        have o2 := ((o1.al (.cells (icells y) 59)).al (.cells (icells x) 59)).dr
        generalize ((wr.alloc (.cells (icells y) 59)).alloc (.cells (icells x) 59)).drew = W1 at *
        clear x0 x1 x2 x3 x4 x5 x6 y0 y1 y2 y3 y4 y5 y6 HXX o1 hne1 hne2
        obtain ⟨x0, x1, x2, x3, x4, x5, x6⟩ := bx.seven
        obtain ⟨y0, y1, y2, y3, y4, y5, y6⟩ := by_.seven
        go_wp2_with fail
        refine (against_any x y _).mono ?_
        rintro e w2 ⟨rfl, k2⟩
        have bx := bx.old k2
        have by_ := by_.old k2
        have o3 := o2.tr k2
        clear x0 x1 x2 x3 x4 x5 x6 y0 y1 y2 y3 y4 y5 y6 o2 k2
        by_cases hxy : cmpI x y < 0
        · have hdec : decide ((0 : Int) ≤ cmpI x y) = false := by simpa using hxy
          obtain ⟨x0, x1, x2, x3, x4, x5, x6⟩ := bx.seven
          obtain ⟨y0, y1, y2, y3, y4, y5, y6⟩ := by_.seven
          go_wp2_with fail
          refine (sameAs_any x y _).mono ?_
          rintro e w3 ⟨rfl, k3⟩
          have o4 := o3.tr k3
          clear x0 x1 x2 x3 x4 x5 x6 y0 y1 y2 y3 y4 y5 y6 bx by_ k3 hdec
          cases hsm : sameI x y with
          | true =>
            have HF := Lib.hid (sorted_no HR.out HX.out.2.2.1 (.inr hsm))
            clear hsm
            go_wp2
            go_ret
            exact ⟨ret_bool HF.out.symm, o4⟩
          | false =>
            have HF := Lib.hid (sorted_go HR.out HX.out.2.2.1 hxy hsm HX.out.2.2.2)
            clear hsm
            go_wp2
            go_roundw
            case rel => exact ⟨k + 1, by omega, by go_num, o4, HF⟩
            case measure => simp [intOf]; omega
        · have hdec : decide ((0 : Int) ≤ cmpI x y) = true := by simp; omega
          have HF := Lib.hid (sorted_no HR.out HX.out.2.2.1 (.inl hxy))
          clear bx by_ hxy
          go_wp2
          go_ret
          exact ⟨ret_bool HF.out.symm, o3⟩
    · have HV := Lib.hid (show sortedB l = true by rw [HR.out]; exact sorted_short _ (by simp; omega))
      go_wp2_with fail
      go_ret
      exact ⟨ret_bool HV.out.symm, o1⟩
end Go.Proofs.Ytbccpplpfcfboaa
