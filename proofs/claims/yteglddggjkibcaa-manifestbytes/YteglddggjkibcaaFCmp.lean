/-
  How two files stand, as the code's closure tells it. No conditions.
-/
import Derived.Test.YteglddggjkibcaaFItm
namespace Go.Proofs.Yteglddggjkibcaa
open Go.RowKit

theorem or_new (g t : Nat) (x0 x1 x2 : Int) (W : World) (hg : W.heap.size = g) :
    Calls Try.prog 63 #[.slice (some ⟨g, 0, none⟩) 3 3] (W.alloc (.cells #[.int .i64 x0, .int .i64 x1, .int .i64 x2] t)).drew
      fun e w' => e = .returned (.int .i64 (or3 x0 x1 x2)) ∧ (W.alloc (.cells #[.int .i64 x0, .int .i64 x1, .int .i64 x2] t)).drew = w' := by
  subst hg
  exact or_any _ _ _ _ _ (by simp [go_sem]) (by simp [go_sem]) (by simp [go_sem])
set_option maxHeartbeats 2000000 in
theorem against_any (a b : Itm) (w : World) :
    Calls Try.prog 62 #[iv a, iv b] w fun e w' => e = .returned (.int .i64 (cmpI a b)) ∧ Old w w' := by
  go_enter Try.func62, Try.ntmps62
  go_wp2
  go_region_held3 (fun w' => w'.cell? ⟨w.heap.size, 0, none⟩ = some (.int .i64 a.lev) ∧ w'.cell? ⟨w.heap.size, 1, none⟩ = some (.string (B a.name)) ∧ w'.cell? ⟨w.heap.size, 2, none⟩ = some (.string (B a.low)) ∧ w'.cell? ⟨w.heap.size + 1, 0, none⟩ = some (.int .i64 b.lev) ∧ w'.cell? ⟨w.heap.size + 1, 1, none⟩ = some (.string (B b.name)) ∧ w'.cell? ⟨w.heap.size + 1, 2, none⟩ = some (.string (B b.low))) (simp [go_sem, World.cell?_alloc_past])
    (first
      | (go_at_call 65; refine (compares_any _ _ _).mono ?_; rintro e w' ⟨rfl, rfl⟩)
      | (go_at_call 64; refine (comparei_any _ _ _).mono ?_; rintro e w' ⟨rfl, rfl⟩)
      | (go_at_call 63; refine (or_new _ _ _ _ _ _ (by simp)).mono ?_; rintro e w' ⟨rfl, rfl⟩))
  go_wp2
  go_ret
  exact ⟨rfl, ((((Old.re _).al _).al _).al _).dr⟩
end Go.Proofs.Yteglddggjkibcaa
