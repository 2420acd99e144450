/-
  How two cells stand: Cmp, Same, of the code and of the reference. No conditions.
-/
import Derived.Test.YtbccpplpfcfboaaRBase
import Derived.ChangeKeysEq
namespace Go.Proofs.Ytbccpplpfcfboaa
open Go.RowKit

theorem or_new (g t : Nat) (x0 x1 x2 x3 : Int) (W : World) (hg : W.heap.size = g) :
    Calls Try.prog 59 #[.slice (some ⟨g, 0, none⟩) 4 4] (W.alloc (.cells #[.int .i64 x0, .int .i64 x1, .int .i64 x2, .int .i64 x3] t)).drew
      fun e w' => e = .returned (.int .i64 (or4 x0 x1 x2 x3)) ∧ (W.alloc (.cells #[.int .i64 x0, .int .i64 x1, .int .i64 x2, .int .i64 x3] t)).drew = w' := by
  subst hg
  exact or_any _ _ _ _ _ _ (by simp [go_sem]) (by simp [go_sem]) (by simp [go_sem]) (by simp [go_sem])

set_option maxHeartbeats 1000000 in
theorem rcmp_any (a b : Cel) (w : World) :
    Calls Try.prog 34 #[cv a, cv b] w fun e w' => e = .returned (.int .i64 (cmpC a b)) ∧ Old w w' := by
  go_enter Try.func34, Try.ntmps34
  go_wp2_with (go_at_call 45; refine (rtext_any _ _ _).mono ?_; rintro e w' ⟨rfl, rfl⟩)
  all_goals (go_ret; refine ⟨ret_int ?_, ((Old.re _).al _).al _⟩; go_light; unfold cmpC or4)
  all_goals (simp only [bne_iff_ne, ne_eq, bne_eq_false_iff_eq] at *)
  all_goals simp only [*, not_true_eq_false, not_false_eq_true, if_true, if_false]
  all_goals (unfold cmpN; split <;> (try split) <;> (try split) <;> (try split) <;> omega)

def eqB (a b : Cel) : Bool := a.row == b.row && a.col == b.col && a.ts == b.ts && a.seq == b.seq && a.del == b.del && a.val == b.val
theorem eqB_iff (a b : Cel) : eqB a b = true ↔ a = b := by
  obtain ⟨r, c, t, s, d, v⟩ := a
  obtain ⟨r', c', t', s', d', v'⟩ := b
  simp [eqB, and_assoc]
theorem cast_ne {a b : Nat} (h : ¬ a = b) : ¬ ((a : Int) = b) := by omega
theorem eqNames (a b c d : List UInt8) (w : World) : (Op.equalIn 9999 102 (.agg #[.string (B a), .string (B b)]) (.agg #[.string (B c), .string (B d)])).run Try.prog w = .ok (a == c && b == d) w := by
  obtain ⟨i, hi⟩ : ∃ i, Try.prog.info? 9 = some i := Option.isSome_iff_exists.1 (by kernel_rfl)
  rw [show (9999 : Nat) = 9998 + 1 from rfl, run_equalIn_array w 9998 _ _ Try.underlying102 hi]
  have hc : Try.prog.cellsOf 9 = 1 := by kernel_rfl
  rw [hc]
  simp only [show List.range 2 = [0, 1] from rfl, Op.eqItems]
  by_cases h1 : a = c <;> by_cases h2 : b = d <;> go_simp <;> simp [h1, h2]
theorem eqlCoord (a b : Cel) (w : World) : (binOp .eql 104 (.agg #[.string (B a.row), .string (B a.col), .int .u64 a.ts]) (.agg #[.string (B b.row), .string (B b.col), .int .u64 b.ts])).run Try.prog w = .ok (.bool (sameB a b)) w := by
  by_cases h1 : a.row = b.row <;> by_cases h2 : a.col = b.col <;> by_cases h3 : a.ts = b.ts <;> go_simp
  all_goals (try have h4 := cast_ne h3)
  all_goals simp [sameB, go_sem, eqNames, *]
set_option maxHeartbeats 1000000 in
theorem rsame_any (a b : Cel) (w : World) :
    Calls Try.prog 23 #[cv a, cv b] w fun e w' => e = .returned (.bool (sameB a b)) ∧ Old w w' := by
  go_enter Try.func23, Try.ntmps23
  go_wp2
  all_goals (go_ret; refine ⟨ret_bool ?_, ((Old.re _).al _).al _⟩; go_light; unfold sameB)
  · have h1 : a.row = b.row := by assumption
    have h2 : a.col = b.col := by assumption
    rw [h1, h2]; simp
    rw [Bool.eq_iff_iff]; simp; omega
  · have h2 : ¬ a.col = b.col := by assumption
    simp [h2]
  · have h2 : ¬ a.row = b.row := by assumption
    simp [h2]

set_option maxHeartbeats 1000000 in
theorem coord_any (c : Cel) (w : World) :
    Calls Try.prog 57 #[cv c] w fun e w' => e = .returned (.agg #[.string (B c.row), .string (B c.col), .int .u64 c.ts]) ∧
      w' = ((((w.alloc (.cells (cells c) 53)).alloc (.cells #[.string (B c.row), .string (B c.col), .int .u64 c.ts] 104)).alloc (.cells (cells c) 53)).alloc (.cells #[.string (B c.row), .string (B c.col)] 102)).drew := by
  go_enter Try.func57, Try.ntmps57
  go_wp2
  go_region_held3 (fun w' => w'.cell? ⟨w.heap.size, 0, none⟩ = some (.string (B c.row)) ∧ w'.cell? ⟨w.heap.size, 1, none⟩ = some (.string (B c.col)) ∧ w'.cell? ⟨w.heap.size, 2, none⟩ = some (.int .u64 c.ts) ∧ w'.cell? ⟨w.heap.size, 3, none⟩ = some (.int .u64 c.seq) ∧ w'.cell? ⟨w.heap.size, 4, none⟩ = some (.bool c.del) ∧ w'.cell? ⟨w.heap.size, 5, none⟩ = some (.string (B c.val))) (simp [go_sem, World.cell?_alloc_past])
    (first
      | (go_at_call 65; refine (namesOf_any _ _).mono ?_; rintro e w' ⟨rfl, rfl⟩))
  go_wp2
  exact bodyPost_ret (v := .agg #[.string (B c.row), .string (B c.col), .int .u64 c.ts]) (by simp [results, Try.results57, go_sem]) rfl ⟨rfl, rfl⟩

set_option maxHeartbeats 1000000 in
theorem same_any (a b : Cel) (w : World) :
    Calls Try.prog 42 #[cv a, cv b] w fun e w' => e = .returned (.bool (sameB a b)) ∧ Old w w' := by
  have he := fun W => eqlCoord a b W
  go_enter Try.func42, Try.ntmps42
  go_wp2
  go_region_held3 (fun w' => w'.cell? ⟨w.heap.size, 0, none⟩ = some (.string (B a.row)) ∧ w'.cell? ⟨w.heap.size, 1, none⟩ = some (.string (B a.col)) ∧ w'.cell? ⟨w.heap.size, 2, none⟩ = some (.int .u64 a.ts) ∧ w'.cell? ⟨w.heap.size, 3, none⟩ = some (.int .u64 a.seq) ∧ w'.cell? ⟨w.heap.size, 4, none⟩ = some (.bool a.del) ∧ w'.cell? ⟨w.heap.size, 5, none⟩ = some (.string (B a.val)) ∧
      w'.cell? ⟨w.heap.size + 1, 0, none⟩ = some (.string (B b.row)) ∧ w'.cell? ⟨w.heap.size + 1, 1, none⟩ = some (.string (B b.col)) ∧ w'.cell? ⟨w.heap.size + 1, 2, none⟩ = some (.int .u64 b.ts) ∧ w'.cell? ⟨w.heap.size + 1, 3, none⟩ = some (.int .u64 b.seq) ∧ w'.cell? ⟨w.heap.size + 1, 4, none⟩ = some (.bool b.del) ∧ w'.cell? ⟨w.heap.size + 1, 5, none⟩ = some (.string (B b.val))) (simp [go_sem, World.cell?_alloc_past])
    (first
      | (go_at_call 57; refine (coord_any _ _).mono ?_; rintro e w' ⟨rfl, rfl⟩))
  go_wp2
  go_ret
  exact ⟨rfl, by repeat (first | exact Old.re _ | apply Old.al | apply Old.dr)⟩
end Go.Proofs.Ytbccpplpfcfboaa
