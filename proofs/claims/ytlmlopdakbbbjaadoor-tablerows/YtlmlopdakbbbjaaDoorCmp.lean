/-
  How two cells stand: Cmp, Same, of the code and of the reference. No conditions.
-/
import Derived.Test.YtlmlopdakbbbjaaDoorBase
import Derived.ChangeKeysEq
namespace Go.Proofs.YtlmlopdakbbbjaaDoor
open Go.RowKit

theorem or_new (g t : Nat) (x0 x1 x2 x3 : Int) (W : World) (hg : W.heap.size = g) :
    Calls Tryd.prog 55 #[.slice (some ⟨g, 0, none⟩) 4 4] (W.alloc (.cells #[.int .i64 x0, .int .i64 x1, .int .i64 x2, .int .i64 x3] t)).drew
      fun e w' => e = .returned (.int .i64 (or4 x0 x1 x2 x3)) ∧ (W.alloc (.cells #[.int .i64 x0, .int .i64 x1, .int .i64 x2, .int .i64 x3] t)).drew = w' := by
  subst hg
  exact or_any _ _ _ _ _ _ (by simp [go_sem]) (by simp [go_sem]) (by simp [go_sem]) (by simp [go_sem])

set_option maxHeartbeats 1000000 in
theorem cmp_any (a b : Cel) (w : World) :
    Calls Tryd.prog 37 #[cv a, cv b] w fun e w' => e = .returned (.int .i64 (cmpC a b)) ∧ Old w w' := by
  go_enter Tryd.func37, Tryd.ntmps37
  go_wp2
  go_region_held3 (fun w' => w'.cell? ⟨w.heap.size, 0, none⟩ = some (.string (B a.row)) ∧ w'.cell? ⟨w.heap.size, 1, none⟩ = some (.string (B a.col)) ∧ w'.cell? ⟨w.heap.size, 2, none⟩ = some (.int .u64 a.ts) ∧ w'.cell? ⟨w.heap.size, 3, none⟩ = some (.int .u64 a.seq) ∧ w'.cell? ⟨w.heap.size + 1, 0, none⟩ = some (.string (B b.row)) ∧ w'.cell? ⟨w.heap.size + 1, 1, none⟩ = some (.string (B b.col)) ∧ w'.cell? ⟨w.heap.size + 1, 2, none⟩ = some (.int .u64 b.ts) ∧ w'.cell? ⟨w.heap.size + 1, 3, none⟩ = some (.int .u64 b.seq)) (simp [go_sem, World.cell?_alloc_past])
    (first
      | (go_at_call 56; refine (compares_any _ _ _).mono ?_; rintro e w' ⟨rfl, rfl⟩)
      | (go_at_call 57; refine (compareu_any _ _ _).mono ?_; rintro e w' ⟨rfl, rfl⟩)
      | (go_at_call 55; refine (or_new _ _ _ _ _ _ _ (by simp)).mono ?_; rintro e w' ⟨rfl, rfl⟩))
  go_wp2
  go_ret
  exact ⟨rfl, ((((Old.re _).al _).al _).al _).dr⟩

def eqB (a b : Cel) : Bool := a.row == b.row && a.col == b.col && a.ts == b.ts && a.seq == b.seq && a.del == b.del && a.val == b.val
theorem eqB_iff (a b : Cel) : eqB a b = true ↔ a = b := by
  obtain ⟨r, c, t, s, d, v⟩ := a
  obtain ⟨r', c', t', s', d', v'⟩ := b
  simp [eqB, and_assoc]
theorem cast_ne {a b : Nat} (h : ¬ a = b) : ¬ ((a : Int) = b) := by omega
theorem eqlCell (a b : Cel) (w : World) : (binOp .eql 45 (cv a) (cv b)).run Tryd.prog w = .ok (.bool (eqB a b)) w := by
  by_cases h1 : a.row = b.row
  case neg => go_simp; simp [eqB, *]
  by_cases h2 : a.col = b.col
  case neg => go_simp; simp [eqB, *]
  by_cases h3 : a.ts = b.ts
  case neg => (have h7 := cast_ne h3); go_simp; simp [eqB, *]
  by_cases h4 : a.seq = b.seq
  case neg => (have h8 := cast_ne h4); go_simp; simp [eqB, *]
  by_cases h5 : a.del = b.del
  case neg => go_simp; simp [eqB, *]
  by_cases h6 : a.val = b.val <;> go_simp <;> simp [eqB, *]

end Go.Proofs.YtlmlopdakbbbjaaDoor