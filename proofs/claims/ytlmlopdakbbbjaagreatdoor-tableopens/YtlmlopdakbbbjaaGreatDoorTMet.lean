/-
  The methods of an opened file: over, blocks, Many, Blocks, Seq, ends, looked, Looks. Conditions: the table is laid; lengths as written.
-/
import Derived.Test.YtlmlopdakbbbjaaGreatDoorTOpn
namespace Go.Proofs.YtlmlopdakbbbjaaGreatDoor
open Go.RowKit

/-- A cell as it is read. -/
def overC (q : Nat) (c : Cel) : Cel := if q = 0 then c else ⟨c.row, c.col, c.ts, q, c.del, c.val⟩
theorem overC_ok {q : Nat} {c : Cel} (hq : q < 18446744073709551616) (h : c.ok) : (overC q c).ok := by
  unfold overC
  split
  · exact h
  · exact ⟨h.1, hq⟩
theorem old6g {w W : World} {g : Nat} (h : Old w W) (hg : w.heap.size ≤ g) (u0 u1 u2 u3 u4 u5 : Value) :
    Old w ((((((W.setCell ⟨g, 0, none⟩ u0).setCell ⟨g, 1, none⟩ u1).setCell ⟨g, 2, none⟩ u2).setCell ⟨g, 3, none⟩ u3).setCell ⟨g, 4, none⟩ u4).setCell ⟨g, 5, none⟩ u5) :=
  ((((((h.st hg _).st hg _).st hg _).st hg _).st hg _).st hg _)
set_option maxRecDepth 100000 in
set_option maxHeartbeats 4000000 in
theorem over_any (a b d q : Int) (n : Nat) (hq : q = (n : Int)) (c : Cel) (w : World) :
    Calls Tryz.prog 45 #[.agg #[.int .u64 a, .int .u64 b, .int .u64 d, .int .u64 q], cv c] w fun e w' => e = .returned (cv (overC n c)) ∧ Old w w' := by
  subst hq
  by_cases hz : n = 0
  · subst hz
    have HV := Lib.hid (show overC 0 c = c from if_pos rfl)
    go_enter Tryz.func45, Tryz.ntmps45
    go_wp2
    exact bodyPost_ret (v := cv c) (by simp [results, Tryz.results45, go_sem]) rfl ⟨by rw [HV.out], (((Old.re _).al _).al _).al _⟩
  · have hnz : ((n : Int) != 0) = true := by rw [bne_iff_ne]; omega
    have HV := Lib.hid (show overC n c = ⟨c.row, c.col, c.ts, n, c.del, c.val⟩ from if_neg hz)
    go_enter Tryz.func45, Tryz.ntmps45
    go_wp2
    exact bodyPost_ret (v := .agg #[.string (B c.row), .string (B c.col), .int .u64 (c.ts : Int), .int .u64 (n : Int), .bool c.del, .string (B c.val)]) (by simp [results, Tryz.results45, go_sem]) rfl ⟨by rw [HV.out], (((Old.re _).al _).al _).al _⟩

set_option maxHeartbeats 1000000 in
theorem blocks_any (g : Nat) (l : List Cel) (q : Nat) (w : World) (h : Tbl w g l q) (hl : l.length ≤ 100000) :
    Calls Tryz.prog 46 #[.pointer (some ⟨g, 0, none⟩)] w fun e w' => ∃ v', e = .returned v' ∧ Prts w' w.heap.size v' (parts l) ∧ Old w w' := by
  obtain ⟨v, hB, hC⟩ := h
  obtain ⟨z0, z1, z2, z3, z4, z5⟩ := hB.six
  go_enter Tryz.func46, Tryz.ntmps46
  go_wp2_with fail
  refine (parts_any v l _ hC hl).mono ?_
  rintro e w1 ⟨v', rfl, hP, k1⟩
  go_wp2
  go_ret
  exact ⟨_, rfl, hP, k1⟩
set_option maxHeartbeats 1000000 in
theorem many_any (g : Nat) (l : List Cel) (q : Nat) (w : World) (h : Tbl w g l q) :
    Calls Tryz.prog 16 #[.pointer (some ⟨g, 0, none⟩)] w fun e w' => e = .returned (.int .i64 (l.length : Nat)) ∧ w = w' := by
  obtain ⟨v, hB, A, cap, rfl, -⟩ := h
  obtain ⟨z0, z1, z2, z3, z4, z5⟩ := hB.six
  go_enter Tryz.func16, Tryz.ntmps16
  go_wp2
  go_ret
  exact ⟨rfl, rfl⟩
set_option maxHeartbeats 1000000 in
theorem seq_any (g : Nat) (l : List Cel) (q : Nat) (w : World) (h : Tbl w g l q) :
    Calls Tryz.prog 17 #[.pointer (some ⟨g, 0, none⟩)] w fun e w' => e = .returned (.int .u64 (q : Nat)) ∧ w = w' := by
  obtain ⟨v, hB, -⟩ := h
  obtain ⟨z0, z1, z2, z3, z4, z5⟩ := hB.six
  go_enter Tryz.func17, Tryz.ntmps17
  go_wp2
  go_ret
  exact ⟨rfl, rfl⟩
set_option maxHeartbeats 1000000 in
theorem blocksN_any (g : Nat) (l : List Cel) (q : Nat) (w : World) (h : Tbl w g l q) (hl : l.length ≤ 100000) :
    Calls Tryz.prog 15 #[.pointer (some ⟨g, 0, none⟩)] w fun e w' => e = .returned (.int .i64 ((parts l).length : Nat)) ∧ Old w w' := by
  go_enter Tryz.func15, Tryz.ntmps15
  go_wp2_with fail
  refine (blocks_any g l q _ h hl).mono ?_
  rintro e w1 ⟨v', rfl, hP, k1⟩
  obtain ⟨A, cap, rfl⟩ := hP.form
  go_wp2
  go_ret
  exact ⟨rfl, k1⟩
/-- The first row and the last one. -/
def firstR (l : List Cel) : List UInt8 := (l[0]?.map (·.row)).getD []
def lastR (l : List Cel) : List UInt8 := (l[l.length - 1]?.map (·.row)).getD []
set_option maxRecDepth 100000 in
set_option maxHeartbeats 1000000 in
theorem ends_any (b off cap : Nat) (l : List Cel) (hne : l ≠ []) (hl : l.length ≤ 100000) (w : World) (h : CelsAt w b off l) :
    Calls Tryz.prog 69 #[.slice (some ⟨b, off, none⟩) l.length cap] w fun e w' => e = .returned (.tuple #[.string (B (firstR l)), .string (B (lastR l))]) ∧ Old w w' := by
  have h0 : 0 < l.length := List.length_pos_iff.2 hne
  obtain ⟨a0, -⟩ := (h.at_ 0 h0).held
  obtain ⟨b0, -⟩ := (h.at_ (l.length - 1) (by omega)).held
  have HF := Lib.hid (show firstR l = l[0].row by unfold firstR; rw [List.getElem?_eq_getElem h0]; rfl)
  have HL := Lib.hid (show lastR l = (l[l.length - 1]'(by omega)).row by unfold lastR; rw [List.getElem?_eq_getElem (by omega)]; rfl)
  generalize l[0].row = x at *
  generalize (l[l.length - 1]'(by omega)).row = y at *
  have i0 : (0 : Int) < (l.length : Int) := by omega
  have i1 : (1 : Int) ≤ (l.length : Int) := by omega
  have i2 : (l.length : Int) - 1 < (l.length : Int) := by omega
  have i3 : (0 : Int) ≤ (l.length : Int) - 1 := by omega
  have i4 : ((l.length : Int) - 1).toNat = l.length - 1 := by omega
  rw [Nat.zero_mul, Nat.add_zero] at a0
  go_enter Tryz.func69, Tryz.ntmps69
  go_wp2_with fail
  go_quiet (fail)
  go_wp2
  go_ret2
  exact ⟨by rw [HF.out, HL.out]; rfl, (Old.re _).dn _⟩
end Go.Proofs.YtlmlopdakbbbjaaGreatDoor
