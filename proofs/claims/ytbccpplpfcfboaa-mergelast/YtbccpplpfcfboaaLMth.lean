/-
  The last ones of an input, as plain mathematics. No program here, no conditions.
-/
import Derived.Test.YtbccpplpfcfboaaRLft
namespace Go.Proofs.Ytbccpplpfcfboaa
open Go.RowKit

theorem best_ex {l : List Itm} {z k : Itm} (hz : z ∈ l) (hk : cmpK z k = 0) : ∃ y, best l k = some y := by
  induction l with
  | nil => cases hz
  | cons x l ih =>
    rw [best]
    rcases List.mem_cons.1 hz with rfl | hz
    · rw [one, if_pos ((sameI_iff _ _).2 hk)]
      cases best l k with
      | none => exact ⟨_, rfl⟩
      | some y => simp only [comb]; split <;> exact ⟨_, rfl⟩
    · obtain ⟨y, hy⟩ := ih hz
      rw [hy]
      unfold one
      split
      · simp only [comb]; split <;> exact ⟨_, rfl⟩
      · exact ⟨_, rfl⟩
theorem best_max {l : List Itm} {k y : Itm} (h : best l k = some y) : ∀ z ∈ l, cmpK z k = 0 → z.pos ≤ y.pos := by
  induction l generalizing y with
  | nil => intro z hz; cases hz
  | cons x l ih =>
    intro z hz hk
    rw [best] at h
    unfold one at h
    by_cases hs : sameI x k = true
    · rw [if_pos hs] at h
      cases hb : best l k with
      | none =>
        rw [hb] at h
        simp only [comb, Option.some.injEq] at h
        subst h
        rcases List.mem_cons.1 hz with rfl | hz
        · exact Int.le_refl _
        · obtain ⟨y, hy⟩ := best_ex hz hk
          rw [hy] at hb; cases hb
      | some y0 =>
        rw [hb] at h
        simp only [comb] at h
        have ih' := ih hb
        split at h
        · injection h with h; subst h
          rcases List.mem_cons.1 hz with rfl | hz
          · omega
          · exact ih' z hz hk
        · injection h with h; subst h
          rcases List.mem_cons.1 hz with rfl | hz
          · exact Int.le_refl _
          · have := ih' z hz hk
            omega
    · rw [if_neg hs] at h
      rcases List.mem_cons.1 hz with rfl | hz
      · exact absurd ((sameI_iff _ _).2 hk) hs
      · exact ih h z hz hk
theorem items_mem {l : List Cel} {y : Itm} (h : y ∈ itemsOf l) : ∃ j : Nat, l[j]? = some y.c ∧ y.pos = (j : Int) := by
  obtain ⟨j, hj, rfl⟩ := List.getElem_of_mem h
  rw [itemsOf_len] at hj
  have h1 := itemsOf_at (List.getElem?_eq_getElem hj)
  have h2 : (itemsOf l)[j]? = some ((itemsOf l)[j]'(by rw [itemsOf_len]; exact hj)) := List.getElem?_eq_getElem (by rw [itemsOf_len]; exact hj)
  rw [h1] at h2
  injection h2 with h2
  exact ⟨j, by rw [← h2]; exact List.getElem?_eq_getElem hj, by rw [← h2]⟩
/-- Does the same coordinate come later? -/
def laterB (l : List Cel) (i : Nat) (c : Cel) : Bool := (l.drop (i + 1)).any (sameB c)
theorem laterB_iff {l : List Cel} {i : Nat} {c : Cel} : laterB l i c = true ↔ ∃ j d, i < j ∧ l[j]? = some d ∧ sameB c d = true := by
  unfold laterB
  rw [List.any_eq_true]
  constructor
  · rintro ⟨d, hd, hs⟩
    obtain ⟨j, hj, rfl⟩ := List.getElem_of_mem hd
    rw [List.getElem_drop] at hs
    exact ⟨i + 1 + j, _, by omega, List.getElem?_eq_getElem (by simp at hj; omega), hs⟩
  · rintro ⟨j, d, hij, hd, hs⟩
    refine ⟨d, ?_, hs⟩
    have : (l.drop (i + 1))[j - (i + 1)]? = some d := by rw [List.getElem?_drop, show i + 1 + (j - (i + 1)) = j by omega]; exact hd
    exact List.mem_of_getElem? this
theorem sameB_K {c d : Cel} {p q : Int} : sameB c d = true ↔ cmpK ⟨c, p⟩ ⟨d, q⟩ = 0 := by
  rw [← sameI_iff]; exact Iff.rfl
theorem best_last {l : List Cel} {i : Nat} {c : Cel} (h : l[i]? = some c) (hl : laterB l i c = false) : best (itemsOf l) ⟨c, (i : Int)⟩ = some ⟨c, (i : Int)⟩ := by
  have hm : (⟨c, (i : Int)⟩ : Itm) ∈ itemsOf l := List.mem_of_getElem? (itemsOf_at h)
  obtain ⟨y, hy⟩ := best_ex hm (cmpK_refl _)
  obtain ⟨j, hj, hp⟩ := items_mem (best_some hy).1
  have h1 := best_max hy _ hm (cmpK_refl _)
  have h2 := (best_some hy).2
  have hij : (i : Int) ≤ (j : Int) := by rw [← hp]; exact h1
  have e : i = j := by
    rcases Nat.lt_or_ge i j with q | q
    · exfalso
      have : laterB l i c = true := laterB_iff.2 ⟨j, y.c, q, hj, (sameB_K (p := (i : Int)) (q := y.pos)).2 (by
        show cmpK ⟨c, (i : Int)⟩ y = 0
        have := cmpK_neg y ⟨c, (i : Int)⟩
        omega)⟩
      rw [hl] at this; cases this
    · omega
  subst e
  rw [h] at hj
  injection hj with hj
  rw [hy]
  obtain ⟨yc, yp⟩ := y
  dsimp only at hj hp
  rw [hj, hp]
theorem last_of_best {l : List Cel} {i : Nat} {c : Cel} (hb : best (itemsOf l) ⟨c, (i : Int)⟩ = some ⟨c, (i : Int)⟩) : laterB l i c = false := by
  rw [← Bool.not_eq_true, laterB_iff]
  rintro ⟨j, d, hij, hd, hs⟩
  have := best_max hb ⟨d, (j : Int)⟩ (List.mem_of_getElem? (itemsOf_at hd)) (by
    have h1 := (sameB_K (p := (i : Int)) (q := (j : Int))).1 hs
    have := cmpK_neg (⟨c, (i : Int)⟩ : Itm) ⟨d, (j : Int)⟩
    omega)
  dsimp only at this
  omega
/-- How many of a list have this coordinate. -/
def cntB (c : Cel) (X : List Cel) : Nat := (X.filter (sameB c)).length
theorem strict_one {out : List Itm} (h : Strict out) {y k : Itm} (hy : y ∈ out) (hk : cmpK y k = 0) : cntB k.c (out.map (·.c)) = 1 := by
  induction out with
  | nil => cases hy
  | cons a t ih =>
    obtain ⟨h1, h2⟩ := List.pairwise_cons.1 h
    unfold cntB
    rw [List.map_cons, List.filter_cons]
    by_cases hs : sameB k.c a.c = true
    · rw [if_pos hs]
      have hka : cmpK a k = 0 := by
        have h3 := (sameB_K (p := k.pos) (q := a.pos)).1 hs
        have h4 := cmpK_neg a k
        have h5 : cmpK k a = 0 := h3
        omega
      have : (t.map (·.c)).filter (sameB k.c) = [] := by
        rw [List.filter_eq_nil_iff]
        intro d hd
        obtain ⟨z, hz, rfl⟩ := List.mem_map.1 hd
        intro h3
        have h4 := h1 z hz
        have h5 : cmpK k z = 0 := (sameB_K (p := k.pos) (q := z.pos)).1 h3
        have h6 := cmpK_left z hka
        omega
      rw [List.length_cons, this]
      rfl
    · rw [if_neg hs]
      rcases List.mem_cons.1 hy with rfl | hy
      · exfalso
        apply hs
        refine (sameB_K (p := k.pos) (q := y.pos)).2 ?_
        have h4 := cmpK_neg y k
        show cmpK k y = 0
        omega
      · exact ih h2 hy
theorem last_cnt {l : List Cel} {out : List Itm} (h : IsRes (itemsOf l) out) {i : Nat} {c : Cel} (hc : l[i]? = some c) : cntB c (out.map (·.c)) = 1 := by
  obtain ⟨y, hy⟩ := best_ex (List.mem_of_getElem? (itemsOf_at hc)) (cmpK_refl _)
  rw [← h.2] at hy
  exact strict_one (k := ⟨c, (i : Int)⟩) h.1 (best_some hy).1 (best_some hy).2
theorem last_eq {l : List Cel} {out : List Itm} (h : IsRes (itemsOf l) out) {i : Nat} {c : Cel} (hc : l[i]? = some c) (hl : laterB l i c = false) : ∀ x ∈ out.map (·.c), sameB c x = true → x = c := by
  intro x hx hs
  obtain ⟨z, hz, rfl⟩ := List.mem_map.1 hx
  have hk : cmpK z ⟨c, (i : Int)⟩ = 0 := by
    have h3 : cmpK ⟨c, (i : Int)⟩ z = 0 := (sameB_K (p := (i : Int)) (q := z.pos)).1 hs
    have := cmpK_neg z ⟨c, (i : Int)⟩
    omega
  have h1 := best_strict h.1 hz hk
  rw [h.2, best_last hc hl] at h1
  injection h1 with h1
  rw [← h1]
/-- How many have none of their coordinate behind them, of the first k. -/
def cntL (l : List Cel) : Nat → Nat
  | 0 => 0
  | k + 1 => cntL l k + (match l[k]? with | some c => if laterB l k c then 0 else 1 | none => 0)
def lastI (l : List Cel) : Nat → List Itm
  | 0 => []
  | k + 1 => lastI l k ++ (match l[k]? with | some c => if laterB l k c then [] else [⟨c, (k : Int)⟩] | none => [])
theorem lastI_len (l : List Cel) (k : Nat) : (lastI l k).length = cntL l k := by
  induction k with
  | zero => rfl
  | succ k ih =>
    rw [lastI, cntL, List.length_append, ih]
    congr 1
    split
    · split <;> rfl
    · rfl
theorem lastI_mem (l : List Cel) (k : Nat) (x : Itm) : x ∈ lastI l k ↔ ∃ i c, i < k ∧ l[i]? = some c ∧ laterB l i c = false ∧ x = ⟨c, (i : Int)⟩ := by
  induction k with
  | zero => simp [lastI]
  | succ k ih =>
    rw [lastI, List.mem_append, ih]
    constructor
    · rintro (⟨i, c, h1, h2, h3, h4⟩ | h)
      · exact ⟨i, c, by omega, h2, h3, h4⟩
      · cases hk : l[k]? with
        | none => rw [hk] at h; cases h
        | some c =>
          rw [hk] at h
          dsimp only at h
          by_cases hb : laterB l k c = true
          · rw [if_pos hb] at h; cases h
          · rw [if_neg hb] at h
            exact ⟨k, c, by omega, hk, by simpa using hb, List.mem_singleton.1 h⟩
    · rintro ⟨i, c, h1, h2, h3, rfl⟩
      by_cases hik : i < k
      · exact .inl ⟨i, c, hik, h2, h3, rfl⟩
      · obtain rfl : i = k := by omega
        refine .inr ?_
        rw [h2]
        dsimp only
        rw [if_neg (by rw [h3]; exact Bool.false_ne_true)]
        exact List.mem_singleton.2 rfl
theorem lastI_nodup (l : List Cel) (k : Nat) : (lastI l k).Nodup := by
  induction k with
  | zero => exact List.Pairwise.nil
  | succ k ih =>
    rw [lastI]
    refine List.nodup_append.2 ⟨ih, ?_, fun x hx y hy e => ?_⟩
    · split
      · split
        · exact List.Pairwise.nil
        · exact List.pairwise_singleton _ _
      · exact List.Pairwise.nil
    · subst e
      obtain ⟨i, c, h1, -, -, h4⟩ := (lastI_mem l k x).1 hx
      have hp : x.pos = (k : Int) := by
        cases hk : l[k]? with
        | none => rw [hk] at hy; cases hy
        | some d =>
          rw [hk] at hy
          dsimp only at hy
          by_cases hb : laterB l k d = true
          · rw [if_pos hb] at hy; cases hy
          · rw [if_neg hb] at hy
            rw [List.mem_singleton.1 hy]
      rw [h4] at hp
      dsimp only at hp
      omega
theorem last_total {l : List Cel} {out : List Itm} (h : IsRes (itemsOf l) out) : cntL l l.length = out.length := by
  rw [← lastI_len]
  have hnd : out.Nodup := h.1.imp fun {a b} hab e => by
    subst e
    rw [cmpK_refl] at hab
    cases hab
  refine Nat.le_antisymm (List.Nodup.length_le_of_subset (lastI_nodup l _) fun x hx => ?_) (List.Nodup.length_le_of_subset hnd fun x hx => ?_)
  · obtain ⟨i, c, -, h2, h3, rfl⟩ := (lastI_mem _ _ _).1 hx
    rw [mem_strict h.1, h.2]
    exact best_last h2 h3
  · have h1 := (mem_strict h.1 x).1 hx
    rw [h.2] at h1
    obtain ⟨j, hj, hp⟩ := items_mem (best_some h1).1
    obtain ⟨xc, xp⟩ := x
    dsimp only at hj hp
    subst hp
    refine (lastI_mem _ _ _).2 ⟨j, xc, (List.getElem?_eq_some_iff.1 hj).1, hj, last_of_best h1, rfl⟩
theorem strict_next {out : List Itm} (h : Strict out) {k : Nat} {x y : Cel} (hx : (out.map (·.c))[k]? = some x) (hy : (out.map (·.c))[k + 1]? = some y) : sameB x y = false ∧ cmpI ⟨x, 0⟩ ⟨y, 0⟩ = -1 := by
  rw [List.getElem?_map] at hx hy
  cases ha : out[k]? with
  | none => rw [ha] at hx; cases hx
  | some a =>
    cases hb : out[k + 1]? with
    | none => rw [hb] at hy; cases hy
    | some b =>
      rw [ha] at hx
      rw [hb] at hy
      injection hx with hx
      injection hy with hy
      subst hx hy
      obtain ⟨h1, rfl⟩ := List.getElem?_eq_some_iff.1 ha
      obtain ⟨h2, rfl⟩ := List.getElem?_eq_some_iff.1 hb
      have hk := List.pairwise_iff_getElem.1 h k (k + 1) h1 h2 (by omega)
      have hk0 : cmpK ⟨out[k].c, 0⟩ ⟨out[k + 1].c, 0⟩ = -1 := hk
      show sameB out[k].c out[k + 1].c = false ∧ cmpI ⟨out[k].c, 0⟩ ⟨out[k + 1].c, 0⟩ = -1
      refine ⟨?_, ?_⟩
      · rw [← Bool.not_eq_true, sameB_K (p := 0) (q := 0)]
        omega
      · rcases cmpI_cases (⟨out[k].c, 0⟩ : Itm) ⟨out[k + 1].c, 0⟩ with q | q | q | q | q <;> omega
end Go.Proofs.Ytbccpplpfcfboaa
