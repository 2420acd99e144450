/-
  How two items stand: against, sameAs, Cmp, and the reference's Cmp. No conditions.
-/
import Derived.Test.YtbccpplpfcfboaaRItm
namespace Go.Proofs.Ytbccpplpfcfboaa
open Go.RowKit

set_option maxHeartbeats 2000000 in
theorem against_any (a b : Itm) (w : World) :
    Calls Try.prog 49 #[iv a, iv b] w fun e w' => e = .returned (.int .i64 (cmpI a b)) ∧ Old w w' := by
  go_enter Try.func49, Try.ntmps49
  go_wp2
  go_region_held3 (fun w' => w'.cell? ⟨w.heap.size, 0, none⟩ = some (.string (B a.c.row)) ∧ w'.cell? ⟨w.heap.size, 1, none⟩ = some (.string (B a.c.col)) ∧ w'.cell? ⟨w.heap.size, 2, none⟩ = some (.int .u64 a.c.ts) ∧ w'.cell? ⟨w.heap.size, 6, none⟩ = some (.int .i64 a.pos) ∧ w'.cell? ⟨w.heap.size + 1, 0, none⟩ = some (.string (B b.c.row)) ∧ w'.cell? ⟨w.heap.size + 1, 1, none⟩ = some (.string (B b.c.col)) ∧ w'.cell? ⟨w.heap.size + 1, 2, none⟩ = some (.int .u64 b.c.ts) ∧ w'.cell? ⟨w.heap.size + 1, 6, none⟩ = some (.int .i64 b.pos)) (simp [go_sem, World.cell?_alloc_past])
    (first
      | (go_at_call 60; refine (compares_any _ _ _).mono ?_; rintro e w' ⟨rfl, rfl⟩)
      | (go_at_call 61; refine (compareu_any _ _ _).mono ?_; rintro e w' ⟨rfl, rfl⟩)
      | (go_at_call 62; refine (comparei_any _ _ _).mono ?_; rintro e w' ⟨rfl, rfl⟩)
      | (go_at_call 59; refine (or_new _ _ _ _ _ _ _ (by simp)).mono ?_; rintro e w' ⟨rfl, rfl⟩))
  go_wp2
  go_ret
  exact ⟨rfl, ((((Old.re _).al _).al _).al _).dr⟩

set_option maxHeartbeats 1000000 in
theorem icmp_any (a b : Itm) (w : World) :
    Calls Try.prog 93 #[iv a, iv b] w fun e w' => e = .returned (.int .i64 (cmpI a b)) ∧ Old w w' := by
  go_enter Try.func93, Try.ntmps93
  go_wp2_with (go_at_call 49; refine (against_any _ _ _).mono ?_; rintro e w1 ⟨rfl, o1⟩)
  go_ret
  exact ⟨rfl, (((Old.re _).al _).al _).tr o1⟩

set_option maxHeartbeats 1000000 in
theorem sameAs_any (a b : Itm) (w : World) :
    Calls Try.prog 51 #[iv a, iv b] w fun e w' => e = .returned (.bool (sameI a b)) ∧ Old w w' := by
  go_enter Try.func51, Try.ntmps51
  go_wp2_with (go_at_call 42; refine (same_any a.c b.c _).mono ?_; rintro e w1 ⟨rfl, o1⟩)
  go_ret
  exact ⟨rfl, (((Old.re _).al _).al _).tr o1⟩

/-- A cell without its number. -/
def noseq (c : Cel) : Cel := ⟨c.row, c.col, c.ts, 0, c.del, c.val⟩
set_option maxHeartbeats 1000000 in
theorem ricmp_any (a b : Itm) (w : World) :
    Calls Try.prog 24 #[iv a, iv b] w fun e w' => e = .returned (.int .i64 (cmpI a b)) ∧ Old w w' := by
  go_enter Try.func24, Try.ntmps24
  go_wp2_with fail
  have ha := (((new_bk w 56 (icells a)).alloc (.cells (icells b) 56)).alloc (.cells (cells (noseq a.c)) 53)).alloc (.cells (cells (noseq b.c)) 53)
  have hb := ((new_bk (w.alloc (.cells (icells a) 56)) 56 (icells b)).alloc (.cells (cells (noseq a.c)) 53)).alloc (.cells (cells (noseq b.c)) 53)
  refine (rcmp_any (noseq a.c) (noseq b.c) _).mono ?_
  rintro e w1 ⟨rfl, o1⟩
  have ha := ha.old o1
  have hb := hb.old o1
  have o2 := (((((Old.re w).al _).al _).al _).al _).tr o1
  have a6 := ha.cell 6
  have b6 := hb.cell 6
  simp only [World.size_alloc] at b6
  have e1 : (icells a)[6]? = some (.int .i64 a.pos) := rfl
  have e2 : (icells b)[6]? = some (.int .i64 b.pos) := rfl
  rw [e1] at a6
  rw [e2] at b6
  have hk : cmpC (noseq a.c) (noseq b.c) = cmpK a b := by
    rw [cmpK_or]
    unfold cmpC noseq
    simp [cmpN]
  rw [hk]
  have hI := cmpI_cases a b
  clear ha hb o1 e1 e2 hk
  go_wp2
  all_goals (go_ret; refine ⟨ret_int ?_, o2⟩; clear a6 b6; simp_all; try omega)
end Go.Proofs.Ytbccpplpfcfboaa
