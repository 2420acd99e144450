/-
  Items in order, as plain mathematics: which one of a coordinate stays, what is sorted, what a stable merge must keep. No program here.
-/
import Derived.Test.YtbccpplpfcfboaaROrd
namespace Go.Proofs.Ytbccpplpfcfboaa
open Go.RowKit

/-- The cell alone that counts for a coordinate. -/
def bare (x : Itm) : Cel := ⟨x.c.row, x.c.col, x.c.ts, 0, false, []⟩
/-- How two coordinates stand. -/
def cmpK (a b : Itm) : Int := cmpC (bare a) (bare b)
def sameI (a b : Itm) : Bool := sameB a.c b.c
theorem cmpK_or (a b : Itm) : cmpK a b = or4 (cmpT a.c.row b.c.row) (cmpT a.c.col b.c.col) (cmpN b.c.ts a.c.ts) 0 := by
  unfold cmpK cmpC bare
  simp [cmpN]
theorem cmpI_K (a b : Itm) : cmpI a b = if cmpK a b ≠ 0 then cmpK a b else cmpZ b.pos a.pos := by
  rw [cmpK_or]
  unfold cmpI or4
  by_cases h1 : cmpT a.c.row b.c.row = 0 <;> by_cases h2 : cmpT a.c.col b.c.col = 0 <;> by_cases h3 : cmpN b.c.ts a.c.ts = 0 <;> simp [h1, h2, h3]
theorem cmpZ_vals (m n : Int) : (cmpZ m n = -1 ∧ m < n) ∨ (cmpZ m n = 0 ∧ m = n) ∨ (cmpZ m n = 1 ∧ n < m) := by
  unfold cmpZ; split
  · omega
  · split <;> omega
theorem cmpK_vals (a b : Itm) : cmpK a b = -1 ∨ cmpK a b = 0 ∨ cmpK a b = 1 := cmpC_vals _ _
theorem cmpK_neg (a b : Itm) : cmpK b a = - cmpK a b := cmpC_neg _ _
theorem cmpK_trans {a b c : Itm} (h1 : cmpK a b = -1) (h2 : cmpK b c = -1) : cmpK a c = -1 := cmpC_lt_trans _ _ _ h1 h2
theorem cmpK_left {a b : Itm} (c : Itm) (h : cmpK a b = 0) : cmpK a c = cmpK b c := cmpC_congr_left _ h
theorem cmpK_right {a b : Itm} (c : Itm) (h : cmpK a b = 0) : cmpK c a = cmpK c b := cmpC_congr_right _ h
theorem cmpK_zero (a b : Itm) : cmpK a b = 0 ↔ a.c.row = b.c.row ∧ a.c.col = b.c.col ∧ a.c.ts = b.c.ts := by
  unfold cmpK
  rw [cmpC_zero]
  simp [bare]
theorem sameI_iff (a b : Itm) : sameI a b = true ↔ cmpK a b = 0 := by
  rw [cmpK_zero]
  simp [sameI, sameB, and_assoc]
theorem sameI_no (a b : Itm) : sameI a b = false ↔ cmpK a b ≠ 0 := by
  rw [← Bool.not_eq_true, sameI_iff]
theorem cmpK_refl (a : Itm) : cmpK a a = 0 := cmpC_refl _
theorem sameI_comm (a b : Itm) : sameI a b = sameI b a := by
  rw [Bool.eq_iff_iff, sameI_iff, sameI_iff]
  have := cmpK_neg a b
  omega
/-- What the order says. -/
theorem cmpI_cases (a b : Itm) : (cmpK a b = -1 ∧ cmpI a b = -1) ∨ (cmpK a b = 1 ∧ cmpI a b = 1) ∨ (cmpK a b = 0 ∧ b.pos < a.pos ∧ cmpI a b = -1) ∨ (cmpK a b = 0 ∧ b.pos = a.pos ∧ cmpI a b = 0) ∨ (cmpK a b = 0 ∧ a.pos < b.pos ∧ cmpI a b = 1) := by
  have h := cmpI_K a b
  have h2 := cmpZ_vals b.pos a.pos
  rcases cmpK_vals a b with k | k | k
  · rw [k] at h; simp at h; omega
  · rw [k] at h; simp at h; omega
  · rw [k] at h; simp at h; omega
theorem cmpI_neg (a b : Itm) : cmpI b a = - cmpI a b := by
  have h := cmpK_neg a b
  rcases cmpI_cases a b with k | k | k | k | k <;> rcases cmpI_cases b a with k2 | k2 | k2 | k2 | k2 <;> omega
theorem cmpI_vals (a b : Itm) : cmpI a b = -1 ∨ cmpI a b = 0 ∨ cmpI a b = 1 := by
  rcases cmpI_cases a b with k | k | k | k | k <;> omega
theorem cmpI_trans {a b c : Itm} (h1 : cmpI a b ≤ 0) (h2 : cmpI b c ≤ 0) : cmpI a c ≤ 0 := by
  have l := cmpK_left (a := a) (b := b) c
  have r := cmpK_right (a := b) (b := c) a
  have t := cmpK_trans (a := a) (b := b) (c := c)
  rcases cmpI_cases a b with k | k | k | k | k <;> rcases cmpI_cases b c with k2 | k2 | k2 | k2 | k2 <;> (try omega) <;> rcases cmpI_cases a c with k3 | k3 | k3 | k3 | k3 <;> (try omega)
  all_goals first
    | (have := t k.1 k2.1; omega)
    | (have := l k.1; omega)
    | (have := r k2.1; omega)
theorem cmpI_lt_le {a b c : Itm} (h1 : cmpI a b < 0) (h2 : cmpI b c ≤ 0) : cmpI a c < 0 := by
  have h := cmpI_trans (a := a) (b := b) (c := c) (by omega) h2
  by_cases h0 : cmpI a c = 0
  · have h3 := cmpI_neg a c
    have h4 := cmpI_trans (a := b) (b := c) (c := a) h2 (by omega)
    have h5 := cmpI_neg a b
    omega
  · omega
theorem cmpI_le_lt {a b c : Itm} (h1 : cmpI a b ≤ 0) (h2 : cmpI b c < 0) : cmpI a c < 0 := by
  have h := cmpI_trans (a := a) (b := b) (c := c) h1 (by omega)
  by_cases h0 : cmpI a c = 0
  · have h3 := cmpI_neg a c
    have h4 := cmpI_trans (a := c) (b := a) (c := b) (by omega) h1
    have h5 := cmpI_neg b c
    omega
  · omega
theorem cmpI_refl (a : Itm) : cmpI a a = 0 := by have := cmpI_neg a a; omega

/-- Of two of one coordinate: the one with the greater place, else the first. -/
def comb : Option Itm → Option Itm → Option Itm
  | none, b => b
  | some x, none => some x
  | some x, some y => if x.pos < y.pos then some y else some x
theorem comb_none (a : Option Itm) : comb a none = a := by cases a <;> rfl
theorem comb_assoc (a b c : Option Itm) : comb (comb a b) c = comb a (comb b c) := by
  cases a with
  | none => rfl
  | some x =>
    cases b with
    | none => rfl
    | some y =>
      cases c with
      | none => simp only [comb_none]
      | some z =>
        simp only [comb]
        by_cases h1 : x.pos < y.pos <;> by_cases h2 : y.pos < z.pos <;> by_cases h3 : x.pos < z.pos <;> simp [h1, h2, h3] <;> omega
theorem comb_swap (x y : Itm) (h : x.pos ≠ y.pos) : comb (some x) (some y) = comb (some y) (some x) := by
  simp only [comb]
  by_cases h1 : x.pos < y.pos
  · rw [if_pos h1, if_neg (by omega)]
  · rw [if_neg h1, if_pos (by omega)]
def one (x k : Itm) : Option Itm := if sameI x k = true then some x else none
/-- Of the items of k's coordinate: the one that stays. -/
def best : List Itm → Itm → Option Itm
  | [], _ => none
  | x :: l, k => comb (one x k) (best l k)
theorem best_app (l m : List Itm) (k : Itm) : best (l ++ m) k = comb (best l k) (best m k) := by
  induction l with
  | nil => rfl
  | cons x l ih => rw [List.cons_append, best, ih, best, comb_assoc]
theorem best_some {l : List Itm} {k x : Itm} (h : best l k = some x) : x ∈ l ∧ cmpK x k = 0 := by
  induction l with
  | nil => cases h
  | cons y l ih =>
    rw [best] at h
    unfold one at h
    by_cases hs : sameI y k = true
    · rw [if_pos hs] at h
      cases hb : best l k with
      | none =>
        rw [hb] at h
        simp only [comb, Option.some.injEq] at h
        subst h
        exact ⟨List.mem_cons_self, (sameI_iff _ _).1 hs⟩
      | some z =>
        rw [hb] at h
        simp only [comb] at h
        split at h
        · injection h with h
          subst h
          exact ⟨List.mem_cons_of_mem _ (ih hb).1, (ih hb).2⟩
        · injection h with h
          subst h
          exact ⟨List.mem_cons_self, (sameI_iff _ _).1 hs⟩
    · rw [if_neg hs] at h
      exact ⟨List.mem_cons_of_mem _ (ih h).1, (ih h).2⟩
theorem best_none {l : List Itm} {k : Itm} (h : ∀ x ∈ l, cmpK x k ≠ 0) : best l k = none := by
  cases hb : best l k with
  | none => rfl
  | some x => exact absurd (best_some hb).2 (h x (best_some hb).1)
/-- One coordinate after the other. -/
abbrev Strict (l : List Itm) : Prop := l.Pairwise fun a b => cmpK a b = -1
/-- In order. -/
abbrev Srt (l : List Itm) : Prop := l.Pairwise fun a b => cmpI a b ≤ 0
theorem best_strict {l : List Itm} (h : Strict l) {x k : Itm} (hx : x ∈ l) (hk : cmpK x k = 0) : best l k = some x := by
  induction l with
  | nil => cases hx
  | cons y l ih =>
    obtain ⟨h1, h2⟩ := List.pairwise_cons.1 h
    rw [best]
    rcases List.mem_cons.1 hx with rfl | hx
    · rw [best_none (l := l) (k := k) (fun z hz e => by
        have a := h1 z hz
        have b := cmpK_right x e
        omega)]
      rw [one, if_pos ((sameI_iff _ _).2 hk)]
      rfl
    · rw [ih h2 hx, one, if_neg (by
        rw [sameI_iff]
        intro e
        have a := h1 x hx
        have b := cmpK_left x e
        have c := cmpK_neg x k
        omega)]
      rfl
theorem mem_strict {l : List Itm} (h : Strict l) (x : Itm) : x ∈ l ↔ best l x = some x :=
  ⟨fun hx => best_strict h hx (cmpK_refl x), fun hb => (best_some hb).1⟩
theorem strict_uniq : ∀ o1 o2 : List Itm, Strict o1 → Strict o2 → (∀ x, x ∈ o1 ↔ x ∈ o2) → o1 = o2
  | [], [], _, _, _ => rfl
  | [], b :: t, _, _, h => absurd ((h b).2 List.mem_cons_self) (by simp)
  | a :: s, [], _, _, h => absurd ((h a).1 List.mem_cons_self) (by simp)
  | a :: s, b :: t, h1, h2, h => by
    obtain ⟨p1, p2⟩ := List.pairwise_cons.1 h1
    obtain ⟨q1, q2⟩ := List.pairwise_cons.1 h2
    have e : a = b := by
      rcases List.mem_cons.1 ((h a).1 List.mem_cons_self) with e | e
      · exact e
      · rcases List.mem_cons.1 ((h b).2 List.mem_cons_self) with f | f
        · exact f.symm
        · have x1 := q1 a e
          have x2 := p1 b f
          have x3 := cmpK_neg a b
          omega
    subst e
    rw [strict_uniq s t p2 q2 fun x => ?_]
    constructor
    · intro hx
      rcases List.mem_cons.1 ((h x).1 (List.mem_cons_of_mem _ hx)) with e | e
      · have := p1 x hx
        rw [e, cmpK_refl] at this
        omega
      · exact e
    · intro hx
      rcases List.mem_cons.1 ((h x).2 (List.mem_cons_of_mem _ hx)) with e | e
      · have := q1 x hx
        rw [e, cmpK_refl] at this
        omega
      · exact e
/-- What Resolve answers. -/
def IsRes (l out : List Itm) : Prop := Strict out ∧ ∀ k, best out k = best l k
theorem IsRes.uniq {l o1 o2 : List Itm} (h1 : IsRes l o1) (h2 : IsRes l o2) : o1 = o2 :=
  strict_uniq _ _ h1.1 h2.1 fun x => by rw [mem_strict h1.1, mem_strict h2.1, h1.2, h2.2]
theorem IsRes.nil : IsRes [] [] := ⟨List.Pairwise.nil, fun _ => rfl⟩
theorem IsRes.self {l : List Itm} (h : Strict l) : IsRes l l := ⟨h, fun _ => rfl⟩
theorem comb_self (a : Option Itm) : comb a a = a := by
  cases a with
  | none => rfl
  | some x => simp [comb]
theorem IsRes.twice {l : List Itm} (h : Strict l) : IsRes (l ++ l) l := ⟨h, fun k => by rw [best_app, comb_self]⟩

/-- What a step of a stable sort keeps. -/
structure Sim (s l : List Itm) : Prop where
  len : s.length = l.length
  sub : ∀ x ∈ s, x ∈ l
  bst : ∀ k, best s k = best l k
theorem Sim.refl (l : List Itm) : Sim l l := ⟨rfl, fun _ h => h, fun _ => rfl⟩
theorem Sim.trans {a b c : List Itm} (h1 : Sim a b) (h2 : Sim b c) : Sim a c := ⟨h1.len.trans h2.len, fun x h => h2.sub x (h1.sub x h), fun k => (h1.bst k).trans (h2.bst k)⟩
theorem Sim.app {a b c d : List Itm} (h1 : Sim a b) (h2 : Sim c d) : Sim (a ++ c) (b ++ d) :=
  ⟨by simp [h1.len, h2.len], fun x h => by
    rcases List.mem_append.1 h with h | h
    · exact List.mem_append.2 (.inl (h1.sub x h))
    · exact List.mem_append.2 (.inr (h2.sub x h)), fun k => by rw [best_app, best_app, h1.bst, h2.bst]⟩
theorem Sim.rot {a b : List Itm} (h : ∀ x ∈ b, ∀ y ∈ a, cmpI x y < 0) : Sim (b ++ a) (a ++ b) :=
  ⟨by simp; omega, fun x hx => by
    rcases List.mem_append.1 hx with hx | hx
    · exact List.mem_append.2 (.inr hx)
    · exact List.mem_append.2 (.inl hx), fun k => by
    rw [best_app, best_app]
    cases ha : best a k with
    | none => rw [comb_none]; rfl
    | some y =>
      cases hb : best b k with
      | none => rfl
      | some x =>
        have h1 := best_some ha
        have h2 := best_some hb
        have h3 := h x h2.1 y h1.1
        refine comb_swap _ _ ?_
        have h4 := cmpK_right x h1.2
        rcases cmpI_cases x y with k | k | k | k | k <;> omega⟩
theorem Srt.app {a b : List Itm} (h1 : Srt a) (h2 : Srt b) (h : ∀ x ∈ a, ∀ y ∈ b, cmpI x y ≤ 0) : Srt (a ++ b) := List.pairwise_append.2 ⟨h1, h2, h⟩

/-- The others of one coordinate, behind one, struck. -/
def cmpt : Itm → List Itm → List Itm
  | _, [] => []
  | p, y :: l => if sameI y p = true then cmpt y l else y :: cmpt y l
def dd : List Itm → List Itm
  | [] => []
  | x :: l => x :: cmpt x l
theorem cmpt_mem : ∀ (l : List Itm) (x : Itm), Srt (x :: l) → ∀ y ∈ cmpt x l, cmpK x y = -1
  | [], _, _ => fun y hy => by simp [cmpt] at hy
  | z :: l, x, h => fun y hy => by
    obtain ⟨h1, h2⟩ := List.pairwise_cons.1 h
    have hxz := h1 z List.mem_cons_self
    rw [cmpt] at hy
    split at hy
    case isTrue hs =>
      have e := (sameI_iff _ _).1 hs
      rw [← cmpK_left y e]
      exact cmpt_mem l z h2 y hy
    case isFalse hs =>
      rw [Bool.not_eq_true, sameI_no] at hs
      have e := cmpK_neg z x
      have hk : cmpK x z = -1 := by rcases cmpI_cases x z with k | k | k | k | k <;> omega
      rcases List.mem_cons.1 hy with rfl | hy
      · exact hk
      · exact cmpK_trans hk (cmpt_mem l z h2 y hy)
theorem cmpt_strict : ∀ (l : List Itm) (x : Itm), Srt (x :: l) → Strict (cmpt x l)
  | [], _, _ => List.Pairwise.nil
  | z :: l, x, h => by
    obtain ⟨h1, h2⟩ := List.pairwise_cons.1 h
    rw [cmpt]
    split
    · exact cmpt_strict l z h2
    · exact List.pairwise_cons.2 ⟨cmpt_mem l z h2, cmpt_strict l z h2⟩
theorem cmpt_best : ∀ (l : List Itm) (x : Itm) (k : Itm), Srt (x :: l) → best (x :: cmpt x l) k = best (x :: l) k
  | [], _, _, _ => rfl
  | z :: l, x, k, h => by
    obtain ⟨h1, h2⟩ := List.pairwise_cons.1 h
    have hxz := h1 z List.mem_cons_self
    have ih := cmpt_best l z k h2
    rw [best, best] at ih
    rw [cmpt]
    split
    case isTrue hs =>
      have e := (sameI_iff _ _).1 hs
      rw [best, best, best]
      rw [← ih, ← comb_assoc]
      congr 1
      unfold one
      have e2 := cmpK_left k e
      by_cases hk : sameI z k = true
      · have hk2 : sameI x k = true := by rw [sameI_iff] at *; omega
        rw [if_pos hk, if_pos hk2]
        simp only [comb]
        rw [if_neg]
        have e3 := cmpK_neg z x
        rcases cmpI_cases x z with k | k | k | k | k <;> omega
      · have hk2 : ¬ sameI x k = true := by rw [sameI_iff] at *; omega
        rw [if_neg hk, if_neg hk2]
        rfl
    case isFalse hs =>
      rw [best, best, best, best, ih]
theorem dd_res {s l : List Itm} (h1 : Srt s) (h2 : ∀ k, best s k = best l k) : IsRes l (dd s) := by
  cases s with
  | nil => exact ⟨List.Pairwise.nil, h2⟩
  | cons x s => exact ⟨List.pairwise_cons.2 ⟨cmpt_mem s x h1, cmpt_strict s x h1⟩, fun k => (cmpt_best s x k h1).trans (h2 k)⟩
theorem dd_len (s : List Itm) : (dd s).length ≤ s.length := by
  have h : ∀ (l : List Itm) (x : Itm), (cmpt x l).length ≤ l.length := by
    intro l
    induction l with
    | nil => intro x; simp [cmpt]
    | cons y l ih =>
      intro x
      have := ih y
      rw [cmpt]
      split <;> simp <;> omega
  cases s with
  | nil => simp [dd]
  | cons x s => have := h s x; simp [dd]; omega

/-- The document's own step: there is one of the coordinate. -/
theorem res_put {A D : List Itm} {y x : Itm} (h : Strict (A ++ y :: D)) (hs : cmpK y x = 0) :
    Strict (A ++ (if y.pos < x.pos then x else y) :: D) ∧ ∀ k, best (A ++ (if y.pos < x.pos then x else y) :: D) k = comb (best (A ++ y :: D) k) (one x k) := by
  obtain ⟨h1, h2, h3⟩ := List.pairwise_append.1 h
  obtain ⟨h4, h5⟩ := List.pairwise_cons.1 h2
  refine ⟨?_, fun k => ?_⟩
  · split
    · refine List.pairwise_append.2 ⟨h1, List.pairwise_cons.2 ⟨fun z hz => ?_, h5⟩, fun a ha z hz => ?_⟩
      · rw [← cmpK_left z hs]; exact h4 z hz
      · rcases List.mem_cons.1 hz with rfl | hz
        · rw [← cmpK_right a hs]; exact h3 a ha y List.mem_cons_self
        · exact h3 a ha z (List.mem_cons_of_mem _ hz)
    · exact h
  · rw [best_app, best, best_app, best]
    have e1 := cmpK_left k hs
    have e2 := cmpK_neg y x
    by_cases hk : cmpK x k = 0
    · rw [best_none (l := A) (k := k) (fun a ha => by
        have g1 := h3 a ha y List.mem_cons_self
        have g2 := cmpK_right a hs
        have g3 := cmpK_right a hk
        omega), best_none (l := D) (k := k) (fun z hz => by
        have g1 := h4 z hz
        have g2 := cmpK_left z hs
        have g3 := cmpK_left z hk
        have g4 := cmpK_neg k z
        omega)]
      have o1 : one x k = some x := by rw [one, if_pos ((sameI_iff _ _).2 hk)]
      have o2 : one y k = some y := by rw [one, if_pos ((sameI_iff _ _).2 (e1.trans hk))]
      rw [o1, o2]
      split
      · rw [o1]; simp [comb, *]
      · rw [o2]; simp [comb, *]
    · have o1 : one x k = none := by rw [one, if_neg (by rw [sameI_iff]; exact hk)]
      have o2 : one y k = none := by rw [one, if_neg (by rw [sameI_iff]; omega)]
      rw [o1, comb_none, o2]
      split
      · rw [o1]
      · rw [o2]
/-- There is none. -/
theorem res_ins {A D : List Itm} {x : Itm} (h : Strict (A ++ D)) (hA : ∀ a ∈ A, cmpK a x = -1) (hD : ∀ d ∈ D, cmpK x d = -1) :
    Strict (A ++ x :: D) ∧ ∀ k, best (A ++ x :: D) k = comb (best (A ++ D) k) (one x k) := by
  obtain ⟨h1, h2, h3⟩ := List.pairwise_append.1 h
  refine ⟨List.pairwise_append.2 ⟨h1, List.pairwise_cons.2 ⟨hD, h2⟩, fun a ha z hz => ?_⟩, fun k => ?_⟩
  · rcases List.mem_cons.1 hz with rfl | hz
    · exact hA a ha
    · exact h3 a ha z hz
  · rw [best_app, best, best_app]
    by_cases hk : cmpK x k = 0
    · rw [best_none (l := A) (k := k) (fun a ha => by
        have g1 := hA a ha
        have g3 := cmpK_right a hk
        omega), best_none (l := D) (k := k) (fun z hz => by
        have g1 := hD z hz
        have g3 := cmpK_left z hk
        have g4 := cmpK_neg k z
        omega)]
      rw [comb_none]
      rfl
    · have o1 : one x k = none := by rw [one, if_neg (by rw [sameI_iff]; exact hk)]
      rw [o1, comb_none]
      rfl

/-- In blocks of s that are in order. -/
def Ch (s : Nat) (l : List Itm) : Prop := ∀ i j x y, i < j → i / s = j / s → l[i]? = some x → l[j]? = some y → cmpI x y ≤ 0
theorem Ch.small {s : Nat} {l : List Itm} (hs : l.length ≤ s) : Ch s l ↔ Srt l := by
  constructor
  · intro h
    refine List.pairwise_iff_getElem.2 ?_
    intro i j hi hj hij
    exact h i j _ _ hij (by rw [Nat.div_eq_of_lt (by omega), Nat.div_eq_of_lt (by omega)]) (List.getElem?_eq_getElem hi) (List.getElem?_eq_getElem hj)
  · intro h i j x y hij _ hx hy
    obtain ⟨hi, rfl⟩ := List.getElem?_eq_some_iff.1 hx
    obtain ⟨hj, rfl⟩ := List.getElem?_eq_some_iff.1 hy
    exact List.pairwise_iff_getElem.1 h i j hi hj hij
theorem Ch.app {s : Nat} (hs : 0 < s) {p r : List Itm} (hp : p.length % s = 0) : Ch s (p ++ r) ↔ Ch s p ∧ Ch s r := by
  obtain ⟨q, hq⟩ : ∃ q, p.length = s * q := ⟨p.length / s, by have := Nat.div_add_mod p.length s; omega⟩
  constructor
  · intro h
    refine ⟨fun i j x y hij hd hx hy => ?_, fun i j x y hij hd hx hy => ?_⟩
    · have hi := (List.getElem?_eq_some_iff.1 hx).1
      have hj := (List.getElem?_eq_some_iff.1 hy).1
      exact h i j x y hij hd (by rw [List.getElem?_append_left hi]; exact hx) (by rw [List.getElem?_append_left hj]; exact hy)
    · refine h (p.length + i) (p.length + j) x y (by omega) ?_ (by rw [List.getElem?_append_right (by omega)]; simpa using hx) (by rw [List.getElem?_append_right (by omega)]; simpa using hy)
      rw [hq, Nat.mul_add_div hs, Nat.mul_add_div hs, hd]
  · rintro ⟨h1, h2⟩ i j x y hij hd hx hy
    by_cases hj : j < p.length
    · rw [List.getElem?_append_left hj] at hy
      rw [List.getElem?_append_left (by omega)] at hx
      exact h1 i j x y hij hd hx hy
    · by_cases hi : i < p.length
      · exfalso
        have a1 : i / s < q := (Nat.div_lt_iff_lt_mul hs).2 (by rw [Nat.mul_comm, ← hq]; exact hi)
        have a2 : q ≤ j / s := (Nat.le_div_iff_mul_le hs).2 (by rw [Nat.mul_comm, ← hq]; omega)
        omega
      · rw [List.getElem?_append_right (by omega)] at hx hy
        refine h2 (i - p.length) (j - p.length) x y (by omega) ?_ hx hy
        have b1 : i / s = q + (i - p.length) / s := by rw [← Nat.mul_add_div hs, ← hq]; congr 1; omega
        have b2 : j / s = q + (j - p.length) / s := by rw [← Nat.mul_add_div hs, ← hq]; congr 1; omega
        omega
theorem Ch.nil (s : Nat) : Ch s [] := fun i j x y _ _ hx => by simp at hx
end Go.Proofs.Ytbccpplpfcfboaa
