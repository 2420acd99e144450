/-
  How two cells stand: Cmp, Same, of the code and of the reference. No conditions.
-/
import Derived.Test.YthanenblcplbhaaMBase
import Derived.ChangeKeysEq
namespace Go.Proofs.Ythanenblcplbhaa
open Go.RowKit

theorem or_new (g t : Nat) (x0 x1 x2 x3 : Int) (W : World) (hg : W.heap.size = g) :
    Calls Try.prog 48 #[.slice (some ⟨g, 0, none⟩) 4 4] (W.alloc (.cells #[.int .i64 x0, .int .i64 x1, .int .i64 x2, .int .i64 x3] t)).drew
      fun e w' => e = .returned (.int .i64 (or4 x0 x1 x2 x3)) ∧ (W.alloc (.cells #[.int .i64 x0, .int .i64 x1, .int .i64 x2, .int .i64 x3] t)).drew = w' := by
  subst hg
  exact or_any _ _ _ _ _ _ (by simp [go_sem]) (by simp [go_sem]) (by simp [go_sem]) (by simp [go_sem])

set_option maxHeartbeats 1000000 in
theorem cmp_any (a b : Cel) (w : World) :
    Calls Try.prog 34 #[cv a, cv b] w fun e w' => e = .returned (.int .i64 (cmpC a b)) ∧ Old w w' := by
  go_enter Try.func34, Try.ntmps34
  go_wp2
  go_region_held3 (fun w' => w'.cell? ⟨w.heap.size, 0, none⟩ = some (.string (B a.row)) ∧ w'.cell? ⟨w.heap.size, 1, none⟩ = some (.string (B a.col)) ∧ w'.cell? ⟨w.heap.size, 2, none⟩ = some (.int .u64 a.ts) ∧ w'.cell? ⟨w.heap.size, 3, none⟩ = some (.int .u64 a.seq) ∧ w'.cell? ⟨w.heap.size + 1, 0, none⟩ = some (.string (B b.row)) ∧ w'.cell? ⟨w.heap.size + 1, 1, none⟩ = some (.string (B b.col)) ∧ w'.cell? ⟨w.heap.size + 1, 2, none⟩ = some (.int .u64 b.ts) ∧ w'.cell? ⟨w.heap.size + 1, 3, none⟩ = some (.int .u64 b.seq)) (simp [go_sem, World.cell?_alloc_past])
    (first
      | (go_at_call 32; refine (compares_any _ _ _).mono ?_; rintro e w' ⟨rfl, rfl⟩)
      | (go_at_call 49; refine (compareu_any _ _ _).mono ?_; rintro e w' ⟨rfl, rfl⟩)
      | (go_at_call 48; refine (or_new _ _ _ _ _ _ _ (by simp)).mono ?_; rintro e w' ⟨rfl, rfl⟩))
  go_wp2
  go_ret
  exact ⟨rfl, ((((Old.re _).al _).al _).al _).dr⟩

set_option maxHeartbeats 1000000 in
theorem rcmp_any (a b : Cel) (w : World) :
    Calls Try.prog 27 #[cv a, cv b] w fun e w' => e = .returned (.int .i64 (cmpC a b)) ∧ Old w w' := by
  go_enter Try.func27, Try.ntmps27
  go_wp2_with (go_at_call 44; refine (rtext_any _ _ _).mono ?_; rintro e w' ⟨rfl, rfl⟩)
  all_goals (go_ret; refine ⟨ret_int ?_, ((Old.re _).al _).al _⟩; go_light; unfold cmpC or4)
  all_goals (simp only [bne_iff_ne, ne_eq, bne_eq_false_iff_eq] at *)
  all_goals simp only [*, not_true_eq_false, not_false_eq_true, if_true, if_false]
  all_goals (unfold cmpN; split <;> (try split) <;> (try split) <;> (try split) <;> omega)

def sameB (a b : Cel) : Bool := a.row == b.row && a.col == b.col && a.ts == b.ts
def eqB (a b : Cel) : Bool := a.row == b.row && a.col == b.col && a.ts == b.ts && a.seq == b.seq && a.del == b.del && a.val == b.val
theorem eqB_iff (a b : Cel) : eqB a b = true ↔ a = b := by
  obtain ⟨r, c, t, s, d, v⟩ := a
  obtain ⟨r', c', t', s', d', v'⟩ := b
  simp [eqB, and_assoc]
theorem cast_ne {a b : Nat} (h : ¬ a = b) : ¬ ((a : Int) = b) := by omega
theorem eqNames (a b c d : List UInt8) (w : World) : (Op.equalIn 9999 58 (.agg #[.string (B a), .string (B b)]) (.agg #[.string (B c), .string (B d)])).run Try.prog w = .ok (a == c && b == d) w := by
  obtain ⟨i, hi⟩ : ∃ i, Try.prog.info? 9 = some i := Option.isSome_iff_exists.1 (by kernel_rfl)
  rw [show (9999 : Nat) = 9998 + 1 from rfl, run_equalIn_array w 9998 _ _ Try.underlying58 hi]
  have hc : Try.prog.cellsOf 9 = 1 := by kernel_rfl
  rw [hc]
  simp only [show List.range 2 = [0, 1] from rfl, Op.eqItems]
  by_cases h1 : a = c <;> by_cases h2 : b = d <;> go_simp <;> simp [h1, h2]
theorem eqlCell (a b : Cel) (w : World) : (binOp .eql 31 (cv a) (cv b)).run Try.prog w = .ok (.bool (eqB a b)) w := by
  by_cases h1 : a.row = b.row
  case neg => go_simp; simp [eqB, *]
  by_cases h2 : a.col = b.col
  case neg => go_simp; simp [eqB, *]
  by_cases h3 : a.ts = b.ts
  case neg => (have h7 := cast_ne h3); go_simp; simp [eqB, *]
  by_cases h4 : a.seq = b.seq
  case neg => (have h8 := cast_ne h4); go_simp; simp [eqB, *]
  by_cases h5 : a.del = b.del
  case neg => go_simp; simp [eqB, *]
  by_cases h6 : a.val = b.val <;> go_simp <;> simp [eqB, *]

end Go.Proofs.Ythanenblcplbhaa
