/-
  The statements' anchor and their bound: shown answers true; bounded. Build and Parse of a list that came in. No conditions but those written.
-/
import Derived.Test.YtlmlopdakbbbjaaGreatDoorBlk
namespace Go.Proofs.YtlmlopdakbbbjaaGreatDoor
open Go.RowKit

set_option maxHeartbeats 1000000 in
theorem build_none (A : Option Addr) (cap : Nat) (w : World) :
    Calls Tryz.prog 48 #[.slice A 0 cap] w fun e w' => e = .returned (buildV []) ∧ Old w w' := by
  have HV := Lib.hid (buildV_yes (l := []) rfl)
  go_enter Tryz.func48, Tryz.ntmps48
  go_wp2_with fail
  refine wp_loop_rounds 1 ?_
  rw [rounds_succ]
  go_wp2_with fail
  refine (rising_none A cap w).mono ?_
  rintro e w1 ⟨rfl, hb⟩
  go_wp2_with fail
  have hg1 := hb.size
  refine (number1_any w1.heap.size [] [] 0 _ (wr_new w1) (by simp)).mono ?_
  rintro e w2 ⟨⟨u2, rfl⟩, i2, k2⟩
  have o3 := (hb.al _).keep k2 hg1 (by simp)
  go_wp2_with fail
  refine wp_loop_rounds 1 ?_
  rw [rounds_succ]
  obtain ⟨v, c0, f0, hlt, hB, hO⟩ := i2.cs
  have hcv := run_strW hO
  go_wp2
  go_ret2
  exact ⟨by rw [HV.out]; rfl, o3⟩
theorem build_at (v : Value) (l : List Cel) (w : World) (h : Cels w v l) (hok : ∀ c ∈ l, c.ok) (hml : l.length ≤ 1000000000) :
    Calls Tryz.prog 48 #[v] w fun e w' => e = .returned (buildV l) ∧ Old w w' := by
  rcases h with ⟨rfl, A, cap, rfl⟩ | ⟨b, off, cap, rfl, h⟩
  · exact build_none A cap w
  · exact build_any b off cap l w h hok hml

def cA : Cel := ⟨[97], [99], 2, 0, false, [120]⟩
def cB : Cel := ⟨[97], [99], 1, 0, true, []⟩
theorem cAB_ok : ∀ c ∈ [cA, cB], c.ok := by
  intro c hc
  rcases List.mem_cons.1 hc with rfl | hc
  · exact ⟨by decide, by decide⟩
  · rw [List.mem_singleton.1 hc]; exact ⟨by decide, by decide⟩
theorem cAB_err : errB [cA, cB] = 0 := by decide
theorem new_cels (w : World) : CelsAt (w.alloc (.cells ((cells cA) ++ (cells cB)) 34)) w.heap.size 0 [cA, cB] := by
  have hb := new_bk w 34 ((cells cA) ++ (cells cB))
  intro i c hc
  match i, hc with
  | 0, hc =>
    simp only [List.getElem?_cons_zero, Option.some.injEq] at hc
    subst hc
    exact ⟨hb.cell 0, hb.cell 1, hb.cell 2, hb.cell 3, hb.cell 4, hb.cell 5⟩
  | 1, hc =>
    simp only [List.getElem?_cons_zero, List.getElem?_cons_succ, Option.some.injEq] at hc
    subst hc
    exact ⟨hb.cell 6, hb.cell 7, hb.cell 8, hb.cell 9, hb.cell 10, hb.cell 11⟩

/-- The statements' bound of a cell, and of a list. -/
def bd1 (c : Cel) : Bool := decide (c.row.length ≤ 100) && decide (c.col.length ≤ 100) && decide (c.val.length ≤ 200)
def bdL (l : List Cel) : Bool := l.all bd1 && decide (l.length ≤ 300)
theorem bd1_yes {c : Cel} (h1 : c.row.length ≤ 100) (h2 : c.col.length ≤ 100) (h3 : c.val.length ≤ 200) : bd1 c = true := by simp [bd1, h1, h2, h3]
theorem bdL_no {l : List Cel} {c : Cel} (hc : c ∈ l) (h : bd1 c = false) : false = bdL l := by
  have : l.all bd1 = false := by rw [List.all_eq_false]; exact ⟨c, hc, by simp [h]⟩
  simp [bdL, this]

theorem bdL_len {l : List Cel} (h : bdL l = true) : l.length ≤ 300 := by
  unfold bdL at h
  rw [Bool.and_eq_true] at h
  simpa using h.2
end Go.Proofs.YtlmlopdakbbbjaaGreatDoor
