/-
  Stamp of table. Conditions: the table is laid; lengths as written.
-/
import Derived.Test.YtlmlopdakbbbjaaGreatDoorTCls
namespace Go.Proofs.YtlmlopdakbbbjaaGreatDoor
open Go.RowKit

theorem tbl_head (l : List Cel) (q : Nat) : (tbl l q).take ((tbl l q).length - 26) = allB l ++ idx (texts l) ++ put (filt l) := by
  have : (tbl l q).length - 26 = (allB l ++ idx (texts l) ++ put (filt l)).length := by
    rw [tbl, List.length_append, ftx_len]; omega
  rw [this, tbl, List.take_left']
  rfl
theorem str_to (s : List UInt8) (n : Nat) (hn : n ≤ s.length) (hs : s.length ≤ 1000000) (W : World) : (Instr.slice 9 (.string (B s)) none (some (.int .i64 (n : Int))) none).run Tryz.prog W = .ok (.string (B (s.take n))) W := by
  have xt : (B s).extract 0 n = B (s.take n) := ext_take _ _
  go_simp
/-- What Stamp answers. -/
def StampP (s : List UInt8) (q : Nat) (e : Ending) : Prop := (openO s = none ∧ e = .returned (.tuple #[.string ⟨#[]⟩, .int .i64 (openE s)])) ∨ ∃ l q0, openO s = some (l, q0) ∧ e = .returned (.tuple #[.string (B (tbl l q)), .int .i64 0])
theorem Bk.six6 {W : World} {g : Nat} {t : TypeId} {u0 u1 u2 u3 u4 u5 : Value} (h : Bk W g t #[u0, u1, u2, u3, u4, u5]) :
    W.cell? ⟨g, 0, none⟩ = some u0 ∧ W.cell? ⟨g, 1, none⟩ = some u1 ∧ W.cell? ⟨g, 2, none⟩ = some u2 ∧ W.cell? ⟨g, 3, none⟩ = some u3 := by
  obtain ⟨a0, a1, a2, a3, -, -⟩ := h.six
  exact ⟨a0, a1, a2, a3⟩
end Go.Proofs.YtlmlopdakbbbjaaGreatDoor
