/-
  Split, Roll and All, as plain mathematics: what comes of them, group by group, and cell by cell. No program here.
-/
import Derived.Test.YtohokmfbcehkgaaCLst
namespace Go.Proofs.Ytohokmfbcehkgaa
open Go.RowKit

theorem snoc_ind {α : Type} {P : List α → Prop} (h0 : P []) (h1 : ∀ l a, P l → P (l ++ [a])) (l : List α) : P l := by
  have h : ∀ m : List α, P m.reverse := by
    intro m
    induction m with
    | nil => exact h0
    | cons a m ih => rw [List.reverse_cons]; exact h1 _ _ ih
  simpa using h l.reverse
/-- The cells of each place. -/
def splitL (bs : List (List UInt8)) (xs : List Cel) : List (List Cel) := (List.range (bs.length + 1)).map fun i => xs.filter fun c => place bs c.row == i
theorem splitL_len (bs : List (List UInt8)) (xs : List Cel) : (splitL bs xs).length = bs.length + 1 := by simp [splitL]
theorem splitL_nil (bs : List (List UInt8)) : splitL bs [] = List.replicate (bs.length + 1) [] := by
  unfold splitL
  simp only [List.filter_nil]
  rw [List.map_const', List.length_range]
theorem splitL_at (bs : List (List UInt8)) (xs : List Cel) {i : Nat} (h : i ≤ bs.length) : (splitL bs xs)[i]? = some (xs.filter fun c => place bs c.row == i) := by
  unfold splitL
  rw [List.getElem?_map, List.getElem?_range (by omega)]
  rfl
theorem splitL_app (bs : List (List UInt8)) (xs g : List Cel) (r : List UInt8) (h : ∀ c ∈ g, c.row = r) : (splitL bs xs).set (place bs r) ((xs.filter fun c => place bs c.row == place bs r) ++ g) = splitL bs (xs ++ g) := by
  apply List.ext_getElem?
  intro i
  by_cases hi : i ≤ bs.length
  · rw [splitL_at bs (xs ++ g) hi, List.filter_append]
    by_cases hp : place bs r = i
    · subst hp
      rw [List.getElem?_set_self (by rw [splitL_len]; omega)]
      congr 2
      symm
      rw [List.filter_eq_self]
      intro c hc
      rw [h c hc]
      simp
    · rw [List.getElem?_set_ne hp, splitL_at bs xs hi]
      have : (g.filter fun c => place bs c.row == i) = [] := by
        rw [List.filter_eq_nil_iff]
        intro c hc
        rw [h c hc]
        simp [hp]
      rw [this, List.append_nil]
  · rw [List.getElem?_eq_none (by rw [List.length_set, splitL_len]; omega), List.getElem?_eq_none (by rw [splitL_len]; omega)]

/-- One row more: into the last list, if there is room, else a new list. -/
def fits (most : Int) (LL : List (List Cel)) (g : List Cel) : Bool := decide (0 < LL.length) && decide ((((LL[LL.length - 1]?.getD []).length : Nat) : Int) + (g.length : Int) ≤ most)
def rollStep (most : Int) (LL : List (List Cel)) (g : List Cel) : List (List Cel) := if fits most LL g = true then LL.set (LL.length - 1) (LL[LL.length - 1]?.getD [] ++ g) else LL ++ [g]
def rollG (most : Int) (gs : List (List Cel)) : List (List Cel) := gs.foldl (rollStep most) []
/-- Whole rows, as many in each list as have no more than most cells, but at least one. -/
def rollL (most : Int) (l : List Cel) : List (List Cel) := rollG most ((grps 0 l).map (·.cs))
theorem rollG_snoc (most : Int) (gs : List (List Cel)) (g : List Cel) : rollG most (gs ++ [g]) = rollStep most (rollG most gs) g := by simp [rollG]
theorem rollStep_len (most : Int) (LL : List (List Cel)) (g : List Cel) : (rollStep most LL g).length ≤ LL.length + 1 := by
  unfold rollStep
  split <;> simp
theorem rollStep_flat (most : Int) (LL : List (List Cel)) (g : List Cel) : (rollStep most LL g).flatten = LL.flatten ++ g := by
  unfold rollStep
  split
  · rename_i h
    unfold fits at h
    rw [Bool.and_eq_true, decide_eq_true_eq] at h
    obtain ⟨I, x, rfl⟩ : ∃ I x, LL = I ++ [x] := ⟨LL.dropLast, LL.getLast (by intro h0; rw [h0] at h; simp at h), (List.dropLast_concat_getLast _).symm⟩
    simp
  · simp
theorem rollG_flat (most : Int) (gs : List (List Cel)) : (rollG most gs).flatten = gs.flatten := by
  refine snoc_ind (P := fun gs => (rollG most gs).flatten = gs.flatten) rfl (fun gs g ih => ?_) gs
  rw [rollG_snoc, rollStep_flat, ih]
  simp
theorem rollG_len (most : Int) (gs : List (List Cel)) : (rollG most gs).length ≤ gs.length := by
  refine snoc_ind (P := fun gs => (rollG most gs).length ≤ gs.length) (Nat.le_refl _) (fun gs g ih => ?_) gs
  rw [rollG_snoc]
  have := rollStep_len most (rollG most gs) g
  simp
  omega
theorem rollL_flat (most : Int) (l : List Cel) : (rollL most l).flatten = l := by
  unfold rollL
  rw [rollG_flat, ← List.flatMap_def, grps_flat]
/-- Borders that are well stand in order. -/
theorem bords_sorted {bs : List (List UInt8)} (h : bords bs = true) : Sorted bs := by
  have step : ∀ i, i + 1 < bs.length → cmpT (bs[i]?.getD []) (bs[i + 1]?.getD []) = -1 := fun i hi => by
    have := bords_at h hi
    unfold goodAt at this
    rw [Bool.and_eq_true, Nat.add_sub_cancel] at this
    have h2 := this.2
    simp at h2
    exact (lt_iff _ _).1 (by simpa using h2)
  have far : ∀ d i, i + d < bs.length → cmpT (bs[i]?.getD []) (bs[i + d]?.getD []) ≤ 0 := by
    intro d
    induction d with
    | zero => intro i hi; rw [Nat.add_zero, cmpT_refl]; omega
    | succ d ih =>
      intro i hi
      have h1 := (leT_iff _ _).2 (ih i (by omega))
      have h2 : leT (bs[i + d]?.getD []) (bs[i + d + 1]?.getD []) = true := (leT_iff _ _).2 (by rw [step (i + d) (by omega)]; omega)
      exact (leT_iff _ _).1 (leT_trans h1 h2)
  intro i j s t hij hs ht
  have hj := (List.getElem?_eq_some_iff.1 ht).1
  have := far (j - i) i (by omega)
  rw [show i + (j - i) = j by omega, hs, ht] at this
  exact (leT_iff _ _).2 this
end Go.Proofs.Ytohokmfbcehkgaa
