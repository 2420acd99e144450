/-
  looked and Looks of an opened file. Conditions: the table is laid; lengths as written.
-/
import Derived.Test.YtlmlopdakbbbjaaGreatDoorTMet
namespace Go.Proofs.YtlmlopdakbbbjaaGreatDoor
open Go.RowKit

/-- May this row stand in this part? -/
def leT (s t : List UInt8) : Bool := Op.bytesLess s t || s == t
def inP (row : List UInt8) (p : List Cel) : Bool := leT (firstR p) row && leT row (lastR p)
def lookP (l : List Cel) (row : List UInt8) : List (List Cel) := if mayL (filt l) row = true then (parts l).filter (inP row) else []
theorem look_take (ps : List (List Cel)) (row : List UInt8) (k : Nat) (h : k < ps.length) : (ps.take (k + 1)).filter (inP row) = (ps.take k).filter (inP row) ++ (if inP row ps[k] = true then [ps[k]] else []) := by
  rw [List.take_succ_eq_append_getElem h, List.filter_append]
  cases hx : inP row ps[k] <;> simp [hx]

set_option maxRecDepth 100000 in
set_option maxHeartbeats 8000000 in
theorem looked_any (g : Nat) (l : List Cel) (q : Nat) (row : List UInt8) (w : World) (h : Tbl w g l q) (hl : l.length ≤ 2000) (hr : row.length ≤ 100000) (ht : Tab w) :
    Calls Tryz.prog 41 #[.pointer (some ⟨g, 0, none⟩), .string (B row)] w fun e w' => ∃ v', e = .returned v' ∧ Prts w' w.heap.size v' (lookP l row) ∧ Old w w' := by
  have hT := h
  obtain ⟨v, hB, hC⟩ := h
  obtain ⟨z0, z1, z2, z3, z4, z5⟩ := hB.six
  have hfl := (filt_len l hl).2
  have HL := Lib.hid (show lookP l row = if mayL (filt l) row = true then (parts l).filter (inP row) else [] from rfl)
  have hpl := parts_len l
  have HE := Lib.hid (parts_each l)
  go_enter Tryz.func41, Tryz.ntmps41
  go_wp2_with fail
  refine (b_may_any (filt l) row (by omega) hr _ ht).mono ?_
  rintro e w1 ⟨rfl, k1⟩
  cases hm : mayL (filt l) row with
  | false =>
    go_wp2
    go_ret
    refine ⟨_, rfl, ?_, k1⟩
    rw [HL.out, hm]
    exact ⟨[], World.ownsRow_nil _ _ _ _, rfl, by simp⟩
  | true =>
    go_wp2_with fail
    refine (blocks_any g l q _ (hT.old k1) (by omega)).mono ?_
    rintro e w2 ⟨vp, rfl, hP, k2⟩
    obtain ⟨A, cap, rfl⟩ := hP.form
    have HL2 := Lib.hid (show lookP l row = (parts l).filter (inP row) by rw [HL.out, if_pos hm])
    generalize hq : parts l = ps at *
    have HQ := Lib.hid hq
    have hps : ps.length ≤ 251 := by omega
    have o2 := k1.tr k2
    clear hq HL hpl hC hB hT z0 z1 z2 z3 z4 z5
    go_wp2_with fail
    go_loopw [5, 20] (fun vt i wr => ∃ (k : Nat) (vs : List Value), k ≤ ps.length ∧ i = .int .i64 k ∧ wr.ownsRow w2.heap.size 22 1 vt ((ps.take k).filter (inP row)).length vs ∧ vs.length = ((ps.take k).filter (inP row)).length ∧ Hid (∀ (i : Nat) (p : List Cel), ((ps.take k).filter (inP row))[i]? = some p → ∃ b off cap, vs[i]? = some (Value.slice (some ⟨b, off, none⟩) p.length cap) ∧ p.length ≤ cap ∧ CelsAt w2 b off p) ∧ Old w2 wr) (fun _ i _ => ps.length - (intOf i).toNat)
    case atStart => exact ⟨0, [], Nat.zero_le _, rfl, World.ownsRow_nil _ _ _ _, rfl, Lib.hid (by simp), Old.re _⟩
    case round =>
      obtain ⟨k, vs, hk, rfl, hown, hvl, HV, hw⟩ := hrel
      by_cases hlt : k < ps.length
      · obtain ⟨gp, b, off, c, rfl, hc, hcl, hCA⟩ := (hP.old hw).at_ k hlt
        have hCA2 : CelsAt w2 b off ps[k] := by
          obtain ⟨gp', b', off', c', e1, hc', hcl', hCA'⟩ := hP.at_ k hlt
          injection e1 with e1
          injection e1 with e2 e3
          subst e2
          rw [cell_old hc' hw] at hc
          injection hc with hc
          injection hc with e4 e5 e6
          injection e4 with e4
          injection e4 with e7 e8
          subst e7 e8
          exact hCA'
        have HTk := Lib.hid (look_take ps row k hlt)
        have hM := HE.out _ (List.getElem_mem hlt)
        have hfl1 : ((ps.take k).filter (inP row)).length ≤ 251 := Nat.le_trans (List.length_filter_le _ _) (by simp; omega)
        generalize ps[k] = p at *
        have i1 : (k : Int) < (ps.length : Int) := by omega
        go_wp2_with fail
        refine (ends_any b off c p hM.1 (by omega) _ hCA).mono ?_
        rintro e w3 ⟨rfl, k3⟩
        have HI := Lib.hid (show inP row p = ((Op.bytesLess (firstR p) row || firstR p == row) && (Op.bytesLess row (lastR p) || row == lastR p)) from rfl)
        have o3 := hw.tr k3
        have ho3 := row_old hown k3
        generalize firstR p = f at *
        generalize lastR p = la at *
        cases hx : (Op.bytesLess f row || f == row) && (Op.bytesLess row la || row == la) with
        | true =>
          rw [hx] at HI
          rw [if_pos HI.out] at HTk
          have hx2 := hx
          rw [Bool.and_eq_true] at hx2
          obtain ⟨hx3, hx4⟩ := hx2
          go_wp2_with (at_builtin; refine wp_one rfl (.tmp 37) (.tmp 39) 54 22 (.slice none 0 0) 24 (by decide) Tryz.underlying54 rfl Tryz.infoSl rfl (W0 := w2) (o3.al _) _ vs _ rfl (row_old ho3 (old_alloc _ _)) (.slice (some ⟨b, off, none⟩) p.length c) rfl w3.heap.size 1 rfl (new_bk _ _ _) (by omega) ?_; intro v4 w4 n4 o4)
          go_roundw
          case rel =>
            refine ⟨k + 1, vs ++ [.slice (some ⟨b, off, none⟩) p.length c], by omega, by go_num, ?_, ?_, Lib.hid ?_, o4⟩
            · rw [HTk.out, List.length_append]; exact n4
            · rw [HTk.out, List.length_append, List.length_append, hvl]; rfl
            · rw [HTk.out]; exact prts_snoc hvl HV.out hCA2 hcl
          case measure => simp [intOf]; omega
        | false =>
          rw [hx] at HI
          rw [if_neg (by rw [HI.out]; decide), List.append_nil] at HTk
          cases hx3 : (Op.bytesLess f row || f == row) with
          | false =>
            go_wp2
            go_roundw
            case rel => exact ⟨k + 1, vs, by omega, by go_num, by rw [HTk.out]; exact ho3, by rw [HTk.out]; exact hvl, by rw [HTk.out]; exact HV, o3⟩
            case measure => simp [intOf]; omega
          | true =>
            have hx4 : (Op.bytesLess row la || row == la) = false := by rw [hx3, Bool.true_and] at hx; exact hx
            go_wp2
            go_roundw
            case rel => exact ⟨k + 1, vs, by omega, by go_num, by rw [HTk.out]; exact ho3, by rw [HTk.out]; exact hvl, by rw [HTk.out]; exact HV, o3⟩
            case measure => simp [intOf]; omega
      · have e : k = ps.length := by omega
        subst e
        rw [List.take_length] at hown hvl HV
        go_wp2
        go_ret
        refine ⟨_, rfl, ?_, o2.tr hw⟩
        rw [HL2.out]
        refine ⟨vs, row_base hown o2.size, hvl, fun i p hp => ?_⟩
        obtain ⟨b, off, cap, e, h1, h2⟩ := HV.out i p hp
        exact ⟨b, off, cap, e, h1, h2.old hw⟩

set_option maxHeartbeats 1000000 in
theorem looks_any (g : Nat) (l : List Cel) (q : Nat) (row : List UInt8) (w : World) (h : Tbl w g l q) (hl : l.length ≤ 2000) (hr : row.length ≤ 100000) (ht : Tab w) :
    Calls Tryz.prog 11 #[.pointer (some ⟨g, 0, none⟩), .string (B row)] w fun e w' => e = .returned (.int .i64 ((lookP l row).length : Nat)) ∧ Old w w' := by
  go_enter Tryz.func11, Tryz.ntmps11
  go_wp2_with fail
  refine (looked_any g l q row _ h hl hr ht).mono ?_
  rintro e w1 ⟨v', rfl, hP, k1⟩
  obtain ⟨A, cap, rfl⟩ := hP.form
  go_wp2
  go_ret
  exact ⟨rfl, k1⟩
end Go.Proofs.YtlmlopdakbbbjaaGreatDoor
