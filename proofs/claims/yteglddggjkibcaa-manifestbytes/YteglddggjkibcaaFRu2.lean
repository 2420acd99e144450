/-
  The reference's state in a law's box. No conditions.
-/
import Derived.Test.YteglddggjkibcaaFRun
namespace Go.Proofs.Yteglddggjkibcaa
open Go.RowKit

/-- A state of the document's own type in a law's box. -/
def Rbox (w : World) (g base : Nat) (s : St) : Prop := ∃ v, Bk w g 30 #[v, .int .u64 (s.next : Int), .int .u64 (s.fl : Int)] ∧ OwnE 75 w base v s.files
theorem Rbox.old {w w' : World} {g base : Nat} {s : St} (h : Rbox w g base s) (k : Old w w') : Rbox w' g base s := by
  obtain ⟨v, h1, h2⟩ := h
  exact ⟨v, h1.old k, h2.old k⟩
theorem six_keep {w W : World} {g h : Nat} {x0 x1 x2 y0 y1 y2 : Value} {W' : World} (k0 : Old w W ∧ W.cell? ⟨g, 0, none⟩ = some x0 ∧ W.cell? ⟨g, 1, none⟩ = some x1 ∧ W.cell? ⟨g, 2, none⟩ = some x2 ∧ W.cell? ⟨h, 0, none⟩ = some y0 ∧ W.cell? ⟨h, 1, none⟩ = some y1 ∧ W.cell? ⟨h, 2, none⟩ = some y2) (k : Old W W') :
    Old w W' ∧ W'.cell? ⟨g, 0, none⟩ = some x0 ∧ W'.cell? ⟨g, 1, none⟩ = some x1 ∧ W'.cell? ⟨g, 2, none⟩ = some x2 ∧ W'.cell? ⟨h, 0, none⟩ = some y0 ∧ W'.cell? ⟨h, 1, none⟩ = some y1 ∧ W'.cell? ⟨h, 2, none⟩ = some y2 := by
  obtain ⟨h0, a0, a1, a2, b0, b1, b2⟩ := k0
  exact ⟨h0.tr k, cell_old a0 k, cell_old a1 k, cell_old a2 k, cell_old b0 k, cell_old b1 k, cell_old b2 k⟩
theorem ap_err {s : St} {e : Ed} (h : (apF s e).1 ≠ 0) : (apF s e).2 = St0 := by
  unfold apF at h ⊢
  split
  · rfl
  · cases h1 : rdropF (isort s.files) e.del with
    | none => rfl
    | some l =>
      dsimp only
      cases h2 : raddF l e.add with
      | none => rfl
      | some m =>
        dsimp only
        cases h3 : crossL m with
        | true => rfl
        | false =>
          exfalso
          apply h
          rename_i hc
          rw [if_neg hc, h1]
          dsimp only
          rw [h2]
          dsimp only
          rw [h3]
          rfl
theorem ap_len {n : Nat} {s : St} {e : Ed} (h : Runs n s) (hs : smallE e = true) : (apF s e).2.files.length ≤ 40 * (n + 1) := by
  by_cases h0 : (apF s e).1 = 0
  · exact (h.ap hs h0).len
  · rw [ap_err h0]; simp
end Go.Proofs.Yteglddggjkibcaa
