/-
  Row of an opened file. Conditions: the table is laid; lengths as written.
-/
import Derived.Test.YtlmlopdakbbbjaaGreatDoorTLok
namespace Go.Proofs.YtlmlopdakbbbjaaGreatDoor
open Go.RowKit

/-- The cells of a row, as they are read. -/
def selC (q : Nat) (row : List UInt8) (l : List Cel) : List Cel := (l.filter fun c => c.row == row).map (overC q)
def rowC (l : List Cel) (q : Nat) (row : List UInt8) : List Cel := selC q row (lookP l row).flatten
theorem selC_app (q : Nat) (row : List UInt8) (a b : List Cel) : selC q row (a ++ b) = selC q row a ++ selC q row b := by
  unfold selC; rw [List.filter_append, List.map_append]
theorem selC_take (q : Nat) (row : List UInt8) (p : List Cel) (j : Nat) (h : j < p.length) : selC q row (p.take (j + 1)) = selC q row (p.take j) ++ (if (p[j].row == row) = true then [overC q p[j]] else []) := by
  rw [List.take_succ_eq_append_getElem h, selC_app]
  congr 1
  unfold selC
  cases hx : (p[j].row == row) <;> simp [hx]
theorem selC_len (q : Nat) (row : List UInt8) (l : List Cel) : (selC q row l).length ≤ l.length := by
  unfold selC; rw [List.length_map]; exact List.length_filter_le _ _
theorem flat_take (ps : List (List Cel)) (k : Nat) (h : k < ps.length) : (ps.take (k + 1)).flatten = (ps.take k).flatten ++ ps[k] := by
  rw [List.take_succ_eq_append_getElem h, List.flatten_append]; simp
theorem flat8 {ps : List (List Cel)} (h : ∀ p ∈ ps, p.length ≤ 8) (k : Nat) (hk : k ≤ ps.length) : (ps.take k).flatten.length ≤ 8 * k := by
  induction k with
  | zero => simp
  | succ k ih =>
    have := ih (by omega)
    have h8 := h _ (List.getElem_mem (show k < ps.length by omega))
    rw [flat_take ps k (by omega), List.length_append]
    omega
theorem lookP_each (l : List Cel) (row : List UInt8) : ∀ p ∈ lookP l row, p ∈ parts l := by
  intro p hp
  unfold lookP at hp
  split at hp
  · exact (List.mem_filter.1 hp).1
  · simp at hp
theorem lookP_len (l : List Cel) (row : List UInt8) : (lookP l row).length ≤ (parts l).length := by
  unfold lookP
  split
  · exact List.length_filter_le _ _
  · simp
theorem own_one {w : World} {base g : Nat} {c : Cel} (h : Bk w g 34 (cells c)) (hb : base ≤ g) : OwnC w base (.slice (some ⟨g, 0, none⟩) 1 1) [c] :=
  ⟨rfl, .inr ⟨g, 1, cells c, rfl, hb, h, Nat.le_refl _, by unfold maxLen; omega, rfl, by simp [flat]⟩⟩
theorem Bk.limbs {W : World} {g gc : Nat} {c : Cel} {u0 u1 u2 u3 u4 u5 : Value} (h : Bk W g 71 #[u0, u1, u2, u3, u4, u5]) (hc : Bk W gc 34 (cells c)) :
    W.cell? ⟨g, 0, none⟩ = some u0 ∧ W.cell? ⟨g, 1, none⟩ = some u1 ∧ W.cell? ⟨g, 2, none⟩ = some u2 ∧ W.cell? ⟨g, 3, none⟩ = some u3 ∧
    W.cell? ⟨gc, 0, none⟩ = some (.string (B c.row)) ∧ W.cell? ⟨gc, 1, none⟩ = some (.string (B c.col)) ∧ W.cell? ⟨gc, 2, none⟩ = some (.int .u64 c.ts) ∧ W.cell? ⟨gc, 3, none⟩ = some (.int .u64 c.seq) ∧ W.cell? ⟨gc, 4, none⟩ = some (.bool c.del) ∧ W.cell? ⟨gc, 5, none⟩ = some (.string (B c.val)) := by
  obtain ⟨a0, a1, a2, a3, -, -⟩ := h.six
  obtain ⟨b0, b1, b2, b3, b4, b5⟩ := hc.six
  exact ⟨a0, a1, a2, a3, b0, b1, b2, b3, b4, b5⟩
theorem OwnC.lt {w : World} {base : Nat} {v : Value} {l : List Cel} (h : OwnC w base v l) : some w.heap.size ≠ v.ownBlock := by
  intro e
  rcases h.2 with ⟨rfl, _⟩ | ⟨g', cap, cur, rfl, _, hg, _⟩
  · cases e
  · have e : w.heap.size = g' := by simpa [Value.ownBlock] using e
    rw [← e, Array.getElem?_eq_none (Nat.le_refl _)] at hg
    cases hg

set_option maxRecDepth 100000 in
set_option maxHeartbeats 8000000 in
theorem row_any (g : Nat) (l : List Cel) (q : Nat) (row : List UInt8) (w : World) (h : Tbl w g l q) (hl : l.length ≤ 2000) (hr : row.length ≤ 100000) (ht : Tab w) :
    Calls Tryz.prog 18 #[.pointer (some ⟨g, 0, none⟩), .string (B row)] w fun e w' => ∃ v' base, e = .returned v' ∧ OwnC w' base v' (rowC l q row) ∧ Old w w' := by
  have h8 : ∀ p ∈ lookP l row, p.length ≤ 8 := fun p hp => (parts_each l p (lookP_each l row p hp)).2.1
  have hpn : (lookP l row).length ≤ 251 := by have h1 := lookP_len l row; have h2 := parts_len l; omega
  have HR := Lib.hid (show rowC l q row = selC q row (lookP l row).flatten from rfl)
  go_enter Tryz.func18, Tryz.ntmps18
  go_wp2_with fail
  refine (looked_any g l q row _ h hl hr ht).mono ?_
  rintro e w1 ⟨vp, rfl, hP, k1⟩
  obtain ⟨v, hB0, -⟩ := h.old k1
  obtain ⟨A, cap, rfl⟩ := hP.form
  generalize lookP l row = ps at *
  generalize ((allB l).length : Int) = x0 at *
  generalize ((idx (texts l)).length : Int) = x1 at *
  generalize ((put (filt l)).length : Int) = x2 at *
  generalize filt l = x5 at *
  have hg1 := hB0.lt
  clear h
  go_wp2_with fail
  go_loopw [5, 14] (fun vl i wr => ∃ k : Nat, k ≤ ps.length ∧ i = .int .i64 k ∧ OwnC wr w1.heap.size vl (selC q row (ps.take k).flatten) ∧ Old w1 wr) (fun _ i _ => ps.length - (intOf i).toNat)
  case atStart => exact ⟨0, Nat.zero_le _, rfl, OwnC.nil _ _, Old.re _⟩
  case round =>
    obtain ⟨k, hk, rfl, ho, hw⟩ := hrel
    by_cases hlt : k < ps.length
    · obtain ⟨gp, b, off, c, rfl, hc, hcl, hCA⟩ := (hP.old hw).at_ k hlt
      have hCA1 : CelsAt w1 b off ps[k] := by
        obtain ⟨gp', b', off', c', e1, hc', hcl', hCA'⟩ := hP.at_ k hlt
        injection e1 with e1
        injection e1 with e2 e3
        subst e2
        rw [cell_old hc' hw] at hc
        injection hc with hc
        injection hc with e4 e5 e6
        injection e4 with e4
        injection e4 with e7 e8
        subst e7 e8
        exact hCA'
      have HFk := Lib.hid (flat_take ps k hlt)
      have hf8 := flat8 h8 k hk
      have hp8 := h8 _ (List.getElem_mem hlt)
      have hsl := selC_len q row (ps.take k).flatten
      generalize ps[k] = p at *
      generalize (ps.take k).flatten = pre at *
      have i1 : (k : Int) < (ps.length : Int) := by omega
      go_wp2_with fail
      go_loopw [5, 20] (fun vl i wz => ∃ j : Nat, j ≤ p.length ∧ i = .int .i64 j ∧ OwnC wz w1.heap.size vl (selC q row (pre ++ p.take j)) ∧ Old w1 wz ∧ CelsAt wz b off p) (fun _ i _ => p.length - (intOf i).toNat)
      case atStart => exact ⟨0, Nat.zero_le _, rfl, by simpa using ho, hw, hCA⟩
      case round =>
        obtain ⟨j, hj, rfl, ho, hw, hCA⟩ := hrel
        by_cases hlt2 : j < p.length
        · have hx := hCA.at_ j hlt2
          have HS := Lib.hid (selC_take q row p j hlt2)
          have hs2 := selC_len q row (pre ++ p.take j)
          rw [List.length_append, List.length_take] at hs2
          generalize p[j] = d at *
          obtain ⟨a0, a1, a2, a3, a4, a5⟩ := hx.held
          have i2 : (j : Int) < (p.length : Int) := by omega
          by_cases hrow : d.row = row
          · have hbe : (d.row == row) = true := by simpa using hrow
            have HS2 := Lib.hid (show selC q row (pre ++ p.take (j + 1)) = selC q row (pre ++ p.take j) ++ [overC q d] by rw [selC_app, HS.out, hbe, selC_app]; simp)
            clear HS hbe
            obtain ⟨dr, dc, dt, ds, dd, dv⟩ := d
            have hrow2 : row = dr := hrow.symm
            clear hrow
            subst hrow2
            dsimp only at a0 a1 a2 a3 a4 a5
            have ow := hw.al (.cells #[.string (B row), .string (B dc), .int .u64 (dt : Int), .int .u64 (ds : Int), .bool dd, .string (B dv)] 34)
            have hcz : Bk (wr.alloc (.cells #[.string (B row), .string (B dc), .int .u64 (dt : Int), .int .u64 (ds : Int), .bool dd, .string (B dv)] 34)) wr.heap.size 34 (cells (⟨row, dc, dt, ds, dd, dv⟩ : Cel)) := new_bk wr 34 #[.string (B row), .string (B dc), .int .u64 (dt : Int), .int .u64 (ds : Int), .bool dd, .string (B dv)]
            have hTz := (hB0.old hw).alloc (.cells #[.string (B row), .string (B dc), .int .u64 (dt : Int), .int .u64 (ds : Int), .bool dd, .string (B dv)] 34)
            have hoz := ho.old (old_alloc wr (.cells #[.string (B row), .string (B dc), .int .u64 (dt : Int), .int .u64 (ds : Int), .bool dd, .string (B dv)] 34))
            have hne := ho.lt
            have hng := ho.not hg1
            have hzs := hw.size
            go_upto_region 9 with (fail)
            generalize wr.alloc (.cells #[.string (B row), .string (B dc), .int .u64 (dt : Int), .int .u64 (ds : Int), .bool dd, .string (B dv)] 34) = wy at *
            generalize wr.heap.size = gc at *
            obtain ⟨d', hd'⟩ : ∃ d', d' = overC q (⟨row, dc, dt, ds, dd, dv⟩ : Cel) := ⟨_, rfl⟩
            have hOV : ∀ W, Calls Tryz.prog 45 #[.agg #[.int .u64 x0, .int .u64 x1, .int .u64 x2, .int .u64 q], cv (⟨row, dc, dt, ds, dd, dv⟩ : Cel)] W fun e w' => e = .returned (cv d') ∧ Old W w' := fun W => by rw [hd']; exact over_any x0 x1 x2 q q rfl (⟨row, dc, dt, ds, dd, dv⟩ : Cel) W
            rw [← hd'] at HS2
            have hlen : (selC q row (pre ++ p.take j)).length + [d'].length ≤ 100000 := by simp only [List.length_cons, List.length_nil]; omega
            clear a0 a1 a2 a3 a4 a5 hx hd' i1 i2 hs2 hf8 hsl hlt hc hcl h8 hpn hzs hl hr HR HFk
            go_region_held_law (fun W => W.cell? ⟨g, 0, none⟩ = some (.int .u64 x0) ∧ W.cell? ⟨g, 1, none⟩ = some (.int .u64 x1) ∧ W.cell? ⟨g, 2, none⟩ = some (.int .u64 x2) ∧ W.cell? ⟨g, 3, none⟩ = some (.int .u64 q) ∧ W.cell? ⟨gc, 0, none⟩ = some (.string (B row)) ∧ W.cell? ⟨gc, 1, none⟩ = some (.string (B dc)) ∧ W.cell? ⟨gc, 2, none⟩ = some (.int .u64 dt) ∧ W.cell? ⟨gc, 3, none⟩ = some (.int .u64 ds) ∧ W.cell? ⟨gc, 4, none⟩ = some (.bool dd) ∧ W.cell? ⟨gc, 5, none⟩ = some (.string (B dv)))
              (first
                | exact Bk.limbs (hk6 _ _ _ (hTz.old (by repeat (first | with_reducible exact Old.re _ | with_reducible assumption | with_reducible apply Old.al | with_reducible apply Old.dr | with_reducible apply Old.dn))) hng) (hk6 _ _ _ (hcz.old (by repeat (first | with_reducible exact Old.re _ | with_reducible assumption | with_reducible apply Old.al | with_reducible apply Old.dr | with_reducible apply Old.dn))) hne)
                | exact Bk.limbs (hTz.old (by repeat (first | with_reducible exact Old.re _ | with_reducible assumption | with_reducible apply Old.al | with_reducible apply Old.dr | with_reducible apply Old.dn))) (hcz.old (by repeat (first | with_reducible exact Old.re _ | with_reducible assumption | with_reducible apply Old.al | with_reducible apply Old.dr | with_reducible apply Old.dn))))
              (first
                | (go_at_call 45; refine (hOV _).mono ?_; rintro e w5 ⟨rfl, k5⟩; have o5 : Old wy w5 := Old.tr (by repeat (first | with_reducible exact Old.re _ | with_reducible assumption | with_reducible apply Old.al | with_reducible apply Old.dr | with_reducible apply Old.dn)) k5; clear k5)
                | (refine step_cels rfl (some 36) rfl (.tmp 28) (.tmp 35) rfl (W0 := w1) (ow.tr (by repeat (first | with_reducible exact Old.re _ | with_reducible assumption | with_reducible apply Old.al | with_reducible apply Old.dr | with_reducible apply Old.dn))) _ _ [d'] rfl (hoz.old (by repeat (first | with_reducible exact Old.re _ | with_reducible assumption | with_reducible apply Old.al | with_reducible apply Old.dr | with_reducible apply Old.dn))) 0 _ rfl (own_one (by first | with_reducible exact new_bk _ _ _ | with_reducible exact (new_bk _ _ _).drew) (Nat.zero_le _)) hlen ?_; intro v6 w6 n6 o6 hk6))
            all_goals
              go_wp2
              go_roundw
              case rel => exact ⟨j + 1, by omega, by go_num, by rw [HS2.out]; exact n6, o6, hCA1.old o6⟩
              case measure => simp [intOf]; omega
          · have hbe : (d.row == row) = false := by simpa using hrow
            have HS2 := Lib.hid (show selC q row (pre ++ p.take (j + 1)) = selC q row (pre ++ p.take j) by rw [selC_app, HS.out, hbe, selC_app]; simp)
            go_wp2
            go_roundw
            case rel => exact ⟨j + 1, by omega, by go_num, by rw [HS2.out]; exact ho.old (old_alloc _ _), hw.al _, hCA.old (old_alloc _ _)⟩
            case measure => simp [intOf]; omega
        · have e : j = p.length := by omega
          subst e
          rw [List.take_length] at ho
          go_wp2
          go_roundw
          case rel => exact ⟨k + 1, by omega, by go_num, by rw [HFk.out]; exact ho, hw⟩
          case measure => simp [intOf]; omega
    · have e : k = ps.length := by omega
      subst e
      rw [List.take_length] at ho
      go_wp2
      go_ret
      exact ⟨_, _, rfl, by rw [HR.out]; exact ho, k1.tr hw⟩
end Go.Proofs.YtlmlopdakbbbjaaGreatDoor
