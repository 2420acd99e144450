/-
  Lists that are merged, as plain mathematics: what is kept, passes. No program here, no conditions.
-/
import Derived.Test.YtbccpplpfcfboaaRPar
import Derived.Test.YtbccpplpfcfboaaMHp
namespace Go.Proofs.Ytbccpplpfcfboaa
open Go.RowKit

/-- The item x of list i is what stays of its coordinate. -/
def IsB (Ls : List (List Itm)) (x : Itm) (i : Nat) : Prop := (∃ L, Ls[i]? = some L ∧ x ∈ L) ∧ ∀ (j : Nat) (L : List Itm) (z : Itm), Ls[j]? = some L → z ∈ L → cmpK z x = 0 → z.pos < x.pos ∨ (z.pos = x.pos ∧ i ≤ j)
theorem best_flat {Ls : List (List Itm)} (hs : ∀ L ∈ Ls, Strict L) {x : Itm} {i : Nat} (h : IsB Ls x i) {k : Itm} (hk : cmpK x k = 0) : best Ls.flatten k = some x := by
  induction Ls generalizing i with
  | nil => obtain ⟨⟨L, h1, -⟩, -⟩ := h; simp at h1
  | cons M Ls ih =>
    rw [List.flatten_cons, best_app]
    obtain ⟨⟨L, h1, h2⟩, h3⟩ := h
    have hxz : ∀ z, cmpK z k = 0 → cmpK z x = 0 := fun z hz => by
      have := cmpK_right z hk
      omega
    cases i with
    | zero =>
      simp at h1
      subst h1
      rw [best_strict (hs _ List.mem_cons_self) h2 hk]
      cases hb : best Ls.flatten k with
      | none => rfl
      | some z =>
        obtain ⟨b1, b2⟩ := best_some hb
        obtain ⟨L, c1, c2⟩ := List.mem_flatten.1 b1
        obtain ⟨j, hj, rfl⟩ := List.getElem_of_mem c1
        have := h3 (j + 1) _ z (by simp [hj]) c2 (hxz z b2)
        simp only [comb]
        rw [if_neg (by omega)]
    | succ i =>
      rw [ih (fun L hL => hs L (List.mem_cons_of_mem _ hL)) (i := i) ⟨⟨L, by simpa using h1, h2⟩, fun j L z hL hz hzx => by
        have := h3 (j + 1) L z (by simpa using hL) hz hzx
        omega⟩]
      cases hb : best M k with
      | none => rfl
      | some z =>
        obtain ⟨b1, b2⟩ := best_some hb
        have := h3 0 M z (by simp) b1 (hxz z b2)
        simp only [comb]
        rw [if_pos (by omega)]
/-- While lists are merged: what is kept so far, what waits. -/
structure MInv (Ls : List (List Itm)) (ws : List Wt) (K : List Itm) : Prop where
  st : Strict K
  bst : ∀ y ∈ K, ∃ i, IsB Ls y i
  cov : ∀ (j : Nat) (L : List Itm) (z : Itm), Ls[j]? = some L → z ∈ L → (∃ a ∈ ws, a.i = j ∧ z ∈ a.x :: a.r) ∨ ∃ y ∈ K, cmpK y z = 0
  sub : ∀ a ∈ ws, ∃ L, Ls[a.i]? = some L ∧ ∀ z ∈ a.x :: a.r, z ∈ L
  ahd : ∀ y ∈ K, ∀ a ∈ ws, ∀ z ∈ a.x :: a.r, cmpI y z ≤ 0
  str : ∀ a ∈ ws, Strict (a.x :: a.r)
theorem MInv.done {Ls : List (List Itm)} {K : List Itm} (h : MInv Ls [] K) (hs : ∀ L ∈ Ls, Strict L) : IsRes Ls.flatten K := by
  refine ⟨h.st, fun k => ?_⟩
  by_cases hx : ∃ x ∈ K, cmpK x k = 0
  · obtain ⟨x, h1, h2⟩ := hx
    obtain ⟨i, hi⟩ := h.bst x h1
    rw [best_strict h.st h1 h2, best_flat hs hi h2]
  · rw [best_none fun x h1 h2 => hx ⟨x, h1, h2⟩]
    refine (best_none fun z h1 h2 => hx ?_).symm
    obtain ⟨L, c1, c2⟩ := List.mem_flatten.1 h1
    obtain ⟨j, hj, rfl⟩ := List.getElem_of_mem c1
    rcases h.cov j _ z (List.getElem?_eq_getElem hj) c2 with ⟨a, ha, -⟩ | ⟨y, y1, y2⟩
    · cases ha
    · exact ⟨y, y1, by have := cmpK_left k y2; omega⟩
theorem top_le {top a : Wt} (h : wcmp top a ≤ 0) (hs : Strict (a.x :: a.r)) {z : Itm} (hz : z ∈ a.x :: a.r) : cmpI top.x z ≤ 0 ∧ (cmpK z top.x = 0 → z.pos < top.x.pos ∨ (z.pos = top.x.pos ∧ top.i ≤ a.i)) := by
  obtain ⟨h1, h2⟩ := List.pairwise_cons.1 hs
  have hc := wcmp_cases top a
  have hi := cmpI_cases top.x a.x
  rcases List.mem_cons.1 hz with rfl | hz
  · have := cmpK_neg top.x a.x
    constructor
    · omega
    · intro hk; omega
  · have k1 := h1 z hz
    have k2 := cmpK_trans (a := top.x) (b := a.x) (c := z)
    have k3 := cmpK_left (a := top.x) (b := a.x) z
    have k4 := cmpK_neg top.x z
    have k5 := cmpI_cases top.x z
    constructor
    · omega
    · intro hk; omega
/-- The last of what is kept. -/
theorem kept_last {Ls : List (List Itm)} {ws : List Wt} {K : List Itm} (h : MInv Ls ws K) {top : Wt} (ht : top ∈ ws) {K0 : List Itm} {y : Itm} (hK : K = K0 ++ [y]) (hy : sameI y top.x = false) : ∀ q ∈ K, cmpK q top.x = -1 := by
  have a1 : ∀ q ∈ K, cmpI q top.x ≤ 0 := fun q hq => h.ahd q hq top ht _ List.mem_cons_self
  have hst := h.st
  subst hK
  rw [sameI_no] at hy
  have c := cmpI_cases y top.x
  have d := a1 y (by simp)
  have e : cmpK y top.x = -1 := by have := cmpK_vals y top.x; omega
  intro q hq
  rcases List.mem_append.1 hq with hq | hq
  · exact cmpK_trans ((List.pairwise_append.1 hst).2.2 q hq y (by simp)) e
  · rw [List.mem_singleton.1 hq]; exact e
theorem MInv.step {Ls : List (List Itm)} {ws ws1 ws' : List Wt} {K K' : List Itm} {top : Wt} (h : MInv Ls ws K) (hm : ∀ a ∈ ws, wcmp top a ≤ 0) (h1 : ∀ a, a ∈ ws ↔ a = top ∨ a ∈ ws1)
    (h2 : ∀ a ∈ ws', a ∈ ws1 ∨ (top.r = a.x :: a.r ∧ a.i = top.i)) (h3 : ∀ a ∈ ws1, a ∈ ws') (h4 : top.r ≠ [] → ∃ a ∈ ws', top.r = a.x :: a.r ∧ a.i = top.i)
    (hK : (∃ K0 y, K = K0 ++ [y] ∧ sameI y top.x = true ∧ K' = K) ∨ ((K = [] ∨ ∃ K0 y, K = K0 ++ [y] ∧ sameI y top.x = false) ∧ K' = K ++ [top.x])) : MInv Ls ws' K' := by
  have ht : top ∈ ws := (h1 top).2 (.inl rfl)
  have hsub' : ∀ a ∈ ws', ∃ b ∈ ws, a.i = b.i ∧ ∀ z ∈ a.x :: a.r, z ∈ b.x :: b.r := fun a ha => by
    rcases h2 a ha with q | ⟨q1, q2⟩
    · exact ⟨a, (h1 a).2 (.inr q), rfl, fun z hz => hz⟩
    · exact ⟨top, ht, q2, fun z hz => by rw [q1]; exact List.mem_cons_of_mem _ hz⟩
  have hstr' : ∀ a ∈ ws', Strict (a.x :: a.r) := fun a ha => by
    rcases h2 a ha with q | ⟨q1, q2⟩
    · exact h.str a ((h1 a).2 (.inr q))
    · rw [← q1]; exact (List.pairwise_cons.1 (h.str top ht)).2
  have hcov' : ∀ (j : Nat) (L : List Itm) (z : Itm), Ls[j]? = some L → z ∈ L → (∃ a ∈ ws', a.i = j ∧ z ∈ a.x :: a.r) ∨ z = top.x ∨ ∃ y ∈ K, cmpK y z = 0 := fun j L z hL hz => by
    rcases h.cov j L z hL hz with ⟨a, a1, a2, a3⟩ | q
    · rcases (h1 a).1 a1 with rfl | a1
      · rcases List.mem_cons.1 a3 with a3 | a3
        · exact .inr (.inl a3)
        · obtain ⟨b, b1, b2, b3⟩ := h4 (by intro e; rw [e] at a3; cases a3)
          exact .inl ⟨b, b1, b3.trans a2, by rw [← b2]; exact a3⟩
      · exact .inl ⟨a, h3 a a1, a2, a3⟩
    · exact .inr (.inr q)
  have hsb : ∀ a ∈ ws', ∃ L, Ls[a.i]? = some L ∧ ∀ z ∈ a.x :: a.r, z ∈ L := fun a ha => by
    obtain ⟨b, b1, b2, b3⟩ := hsub' a ha
    obtain ⟨L, c1, c2⟩ := h.sub b b1
    exact ⟨L, by rw [b2]; exact c1, fun z hz => c2 z (b3 z hz)⟩
  rcases hK with ⟨K0, y, rfl, hy, rfl⟩ | ⟨hK, rfl⟩
  · refine ⟨h.st, h.bst, fun j L z hL hz => ?_, hsb, fun q hq a ha z hz => ?_, hstr'⟩
    · rcases hcov' j L z hL hz with q | rfl | q
      · exact .inl q
      · exact .inr ⟨y, by simp, (sameI_iff _ _).1 hy⟩
      · exact .inr q
    · obtain ⟨b, b1, b2, b3⟩ := hsub' a ha
      exact h.ahd q hq b b1 z (b3 z hz)
  · have hlt : ∀ q ∈ K, cmpK q top.x = -1 := by
      rcases hK with rfl | ⟨K0, y, hk, hy⟩
      · intro q hq; cases hq
      · exact kept_last h ht hk hy
    refine ⟨List.pairwise_append.2 ⟨h.st, List.pairwise_singleton _ _, fun a ha b hb => by rw [List.mem_singleton.1 hb]; exact hlt a ha⟩, fun q hq => ?_, fun j L z hL hz => ?_, hsb, fun q hq a ha z hz => ?_, hstr'⟩
    · rcases List.mem_append.1 hq with hq | hq
      · exact h.bst q hq
      · rw [List.mem_singleton.1 hq]
        obtain ⟨L, c1, c2⟩ := h.sub top ht
        refine ⟨top.i, ⟨L, c1, c2 _ List.mem_cons_self⟩, fun j L' z hL hz hzk => ?_⟩
        rcases h.cov j L' z hL hz with ⟨a, a1, a2, a3⟩ | ⟨y, y1, y2⟩
        · have := (top_le (hm a a1) (h.str a a1) a3).2 hzk
          omega
        · have e1 := cmpK_left top.x y2
          have e2 := hlt y y1
          omega
    · rcases hcov' j L z hL hz with q | rfl | ⟨y, y1, y2⟩
      · exact .inl q
      · exact .inr ⟨top.x, by simp, cmpK_refl _⟩
      · exact .inr ⟨y, by simp [y1], y2⟩
    · obtain ⟨b, b1, b2, b3⟩ := hsub' a ha
      rcases List.mem_append.1 hq with hq | hq
      · exact h.ahd q hq b b1 z (b3 z hz)
      · rw [List.mem_singleton.1 hq]
        exact (top_le (hm b b1) (h.str b b1) (b3 z hz)).1
/-- Lists that wait, of the first n lists. -/
def Waits (Ls : List (List Itm)) (n : Nat) (ws : List Wt) : Prop := (∀ a ∈ ws, a.i < n ∧ Ls[a.i]? = some (a.x :: a.r)) ∧ ∀ j x r, j < n → Ls[j]? = some (x :: r) → ∃ a ∈ ws, a.i = j ∧ a.x = x ∧ a.r = r
theorem Waits.start {Ls : List (List Itm)} {ws : List Wt} (h : Waits Ls Ls.length ws) (hs : ∀ L ∈ Ls, Strict L) : MInv Ls ws [] := by
  refine ⟨List.Pairwise.nil, fun y hy => (by cases hy), fun j L z hL hz => ?_, fun a ha => ⟨_, (h.1 a ha).2, fun z hz => hz⟩, fun y hy => (by cases hy), fun a ha => hs _ (List.mem_of_getElem? (h.1 a ha).2)⟩
  cases L with
  | nil => cases hz
  | cons x r =>
    obtain ⟨a, a1, a2, a3, a4⟩ := h.2 j x r (List.getElem?_eq_some_iff.1 hL).1 hL
    exact .inl ⟨a, a1, a2, by rw [a3, a4]; exact hz⟩
theorem Waits.nil (Ls : List (List Itm)) : Waits Ls 0 [] := ⟨fun a ha => (by cases ha), fun j x r h => by omega⟩
theorem Waits.skip {Ls : List (List Itm)} {n : Nat} {ws : List Wt} (h : Waits Ls n ws) (hn : Ls[n]? = some []) : Waits Ls (n + 1) ws :=
  ⟨fun a ha => ⟨by have := (h.1 a ha).1; omega, (h.1 a ha).2⟩, fun j x r hj hL => by
    by_cases e : j = n
    · subst e; rw [hn] at hL; cases hL
    · exact h.2 j x r (by omega) hL⟩
theorem Waits.add {Ls : List (List Itm)} {n : Nat} {ws ws' : List Wt} {v : Value} {x : Itm} {r : List Itm} (h : Waits Ls n ws) (hn : Ls[n]? = some (x :: r)) (hp : ws'.Perm (ws ++ [⟨v, x, r, n⟩])) : Waits Ls (n + 1) ws' := by
  refine ⟨fun a ha => ?_, fun j y s hj hL => ?_⟩
  · rcases List.mem_append.1 (hp.mem_iff.1 ha) with q | q
    · exact ⟨by have := (h.1 a q).1; omega, (h.1 a q).2⟩
    · rw [List.mem_singleton.1 q]; exact ⟨by show n < n + 1; omega, hn⟩
  · by_cases e : j = n
    · subst e
      rw [hn] at hL
      injection hL with hL
      injection hL with e1 e2
      exact ⟨⟨v, x, r, j⟩, hp.mem_iff.2 (by simp), rfl, e1, e2⟩
    · obtain ⟨a, a1, a2⟩ := h.2 j y s (by omega) hL
      exact ⟨a, hp.mem_iff.2 (by simp [a1]), a2⟩

/-- The i-th group of lists. -/
def grp (Ls : List (List Itm)) (m i : Nat) : List (List Itm) := (Ls.drop (i * m)).take m
theorem grp_len (Ls : List (List Itm)) (m i : Nat) : (grp Ls m i).length = min m (Ls.length - i * m) := by simp [grp]
theorem grp_mem {Ls : List (List Itm)} {m i : Nat} {L : List Itm} (h : L ∈ grp Ls m i) : L ∈ Ls := List.mem_of_mem_drop (List.mem_of_mem_take h)
/-- One pass. -/
def PassR (Ls : List (List Itm)) (m : Nat) (Ls' : List (List Itm)) : Prop := Ls'.length = many Ls.length m ∧ ∀ i out, Ls'[i]? = some out → IsRes (grp Ls m i).flatten out
theorem PassR.uniq {Ls a b : List (List Itm)} {m : Nat} (h1 : PassR Ls m a) (h2 : PassR Ls m b) : a = b := by
  refine List.ext_getElem? fun i => ?_
  rcases Nat.lt_or_ge i a.length with hi | hi
  · have hj : i < b.length := by rw [h2.1, ← h1.1]; exact hi
    rw [List.getElem?_eq_getElem hi, List.getElem?_eq_getElem hj]
    rw [(h1.2 i _ (List.getElem?_eq_getElem hi)).uniq (h2.2 i _ (List.getElem?_eq_getElem hj))]
  · rw [List.getElem?_eq_none hi, List.getElem?_eq_none (by rw [h2.1, ← h1.1]; exact hi)]
theorem PassR.strict {Ls a : List (List Itm)} {m : Nat} (h : PassR Ls m a) : ∀ L ∈ a, Strict L := fun L hL => by
  obtain ⟨i, hi, rfl⟩ := List.getElem_of_mem hL
  exact (h.2 i _ (List.getElem?_eq_getElem hi)).1
theorem PassR.best {Ls a : List (List Itm)} {m : Nat} (hm : 1 ≤ m) (h : PassR Ls m a) (k : Itm) : best a.flatten k = best Ls.flatten k := by
  have key : ∀ j, j ≤ a.length → Go.Proofs.Ytbccpplpfcfboaa.best (a.take j).flatten k = Go.Proofs.Ytbccpplpfcfboaa.best (Ls.take (j * m)).flatten k := by
    intro j
    induction j with
    | zero => intro _; simp
    | succ j ih =>
      intro hj
      have e1 := List.take_succ_eq_append_getElem (l := a) (i := j) (by omega)
      have e2 : Ls.take ((j + 1) * m) = Ls.take (j * m) ++ grp Ls m j := by
        rw [grp, Nat.add_mul, Nat.one_mul, List.take_add]
      rw [e1, e2, List.flatten_append, List.flatten_append, best_app, best_app, ih (by omega)]
      congr 1
      simp only [List.flatten_cons, List.flatten_nil, List.append_nil]
      exact (h.2 j _ (List.getElem?_eq_getElem (by omega))).2 k
  have := key a.length (Nat.le_refl _)
  rw [List.take_length] at this
  rw [this]
  congr 2
  apply List.take_of_length_le
  rw [h.1]
  rcases Nat.lt_or_ge (many Ls.length m * m) Ls.length with q | q
  · exact absurd ((many_lt hm).2 q) (Nat.lt_irrefl _)
  · exact q
/-- How many passes there are, of n lists. -/
inductive Cnt (m : Nat) : Nat → Nat → Prop
  | stop (n : Nat) : n < 2 → Cnt m n 0
  | step (n p : Nat) : 2 ≤ n → Cnt m (many n m) p → Cnt m n (p + 1)
theorem Cnt.uniq {m n p : Nat} (h : Cnt m n p) : ∀ {q : Nat}, Cnt m n q → p = q := by
  induction h with
  | stop n h => intro q h2; cases h2 <;> omega
  | step n p h _ ih =>
    intro q h2
    cases h2 with
    | stop => omega
    | step _ q _ h3 => rw [ih h3]
theorem many_half {n m : Nat} (hm : 2 ≤ m) : many n m ≤ (n + 1) / 2 := by
  unfold many
  rcases Nat.eq_zero_or_pos n with rfl | hn
  · rw [Nat.div_eq_of_lt (by omega)]; omega
  · rw [Nat.le_div_iff_mul_le (by omega)]
    have h1 : (n + m - 1) / m * m ≤ n + m - 1 := Nat.div_mul_le_self _ _
    have h2 : (n + m - 1) / m = (n - 1) / m + 1 := by
      rw [show n + m - 1 = n - 1 + m by omega, Nat.add_div_right _ (by omega)]
    have h3 : (n - 1) / m * 2 ≤ (n - 1) / m * m := Nat.mul_le_mul_left _ hm
    have h4 : (n - 1) / m * m ≤ n - 1 := Nat.div_mul_le_self _ _
    omega
theorem many_pos {n m : Nat} (hm : 1 ≤ m) (hn : 0 < n) : 0 < many n m := (many_lt hm).2 (by omega)
theorem many_one {n m : Nat} (hm : 2 ≤ m) (hn : n < 2) : many n m = n := by
  have h1 := many_half (n := n) hm
  rcases Nat.eq_zero_or_pos n with rfl | h
  · exact many_nil (by omega)
  · have := many_pos (m := m) (by omega) h
    omega
theorem Cnt.le {m n p : Nat} (hm : 2 ≤ m) (h : Cnt m n p) : ∀ q, n ≤ 2 ^ q → p ≤ q := by
  induction h with
  | stop n h => intro q _; omega
  | step n p h _ ih =>
    intro q hq
    cases q with
    | zero => simp at hq; omega
    | succ q =>
      have := ih q (by
        have h1 := many_half (n := n) hm
        have h2 : 2 ^ (q + 1) = 2 ^ q * 2 := Nat.pow_succ 2 q
        omega)
      omega
theorem Cnt.has {m : Nat} (hm : 2 ≤ m) (n : Nat) : ∃ p, Cnt m n p := by
  induction n using Nat.strongRecOn with
  | ind n ih =>
    by_cases h : n < 2
    · exact ⟨0, .stop n h⟩
    · obtain ⟨p, hp⟩ := ih (many n m) (by have := many_half (n := n) hm; omega)
      exact ⟨p + 1, .step n p (by omega) hp⟩
/-- All passes. -/
inductive AllR (m : Nat) : List (List Itm) → List Itm → Nat → Prop
  | stop (Ls : List (List Itm)) : Ls.length < 2 → AllR m Ls Ls.flatten 0
  | step (Ls Ls' : List (List Itm)) (out : List Itm) (p : Nat) : 2 ≤ Ls.length → PassR Ls m Ls' → AllR m Ls' out p → AllR m Ls out (p + 1)
theorem AllR.uniq {m : Nat} {Ls : List (List Itm)} {o1 : List Itm} {p1 : Nat} (h : AllR m Ls o1 p1) : ∀ {o2 : List Itm} {p2 : Nat}, AllR m Ls o2 p2 → o1 = o2 ∧ p1 = p2 := by
  induction h with
  | stop Ls h =>
    intro o2 p2 h2
    cases h2 with
    | stop => exact ⟨rfl, rfl⟩
    | step => omega
  | step Ls Ls' out p h hp _ ih =>
    intro o2 p2 h2
    cases h2 with
    | stop => omega
    | step _ Lq _ q _ hq h3 =>
      rw [← hp.uniq hq] at h3
      obtain ⟨e1, e2⟩ := ih h3
      exact ⟨e1, by rw [e2]⟩
theorem AllR.cnt {m : Nat} {Ls : List (List Itm)} {o : List Itm} {p : Nat} (h : AllR m Ls o p) : Cnt m Ls.length p := by
  induction h with
  | stop Ls h => exact .stop _ h
  | step Ls Ls' out p h hp _ ih => exact .step _ _ h (by rw [← hp.1]; exact ih)
theorem flat_one_strict {Ls : List (List Itm)} (h : Ls.length < 2) (hs : ∀ L ∈ Ls, Strict L) : Strict Ls.flatten := by
  match Ls, h with
  | [], _ => exact List.Pairwise.nil
  | [L], _ => simpa using hs L (by simp)
theorem AllR.res {m : Nat} (hm : 1 ≤ m) {Ls : List (List Itm)} {o : List Itm} {p : Nat} (h : AllR m Ls o p) (hs : ∀ L ∈ Ls, Strict L) : IsRes Ls.flatten o := by
  induction h with
  | stop Ls h => exact .self (flat_one_strict h hs)
  | step Ls Ls' out p h hp _ ih =>
    have := ih hp.strict
    exact ⟨this.1, fun k => (this.2 k).trans (hp.best hm k)⟩
/-- A pass of one list, or none, is that list. -/
theorem pass_one {Ls Ls' : List (List Itm)} {m : Nat} (hm : 2 ≤ m) (h : PassR Ls m Ls') (hl : Ls.length < 2) (hs : ∀ L ∈ Ls, Strict L) : Ls' = Ls := by
  refine h.uniq ⟨(many_one hm hl).symm, fun i out ho => ?_⟩
  match Ls, hl with
  | [], _ => simp at ho
  | [L], _ =>
    cases i with
    | zero =>
      simp at ho
      subst ho
      have : grp [L] m 0 = [L] := by
        unfold grp
        rw [Nat.zero_mul, List.drop_zero, List.take_of_length_le (by simp; omega)]
      rw [this]
      simpa using IsRes.self (hs L (by simp))
    | succ i => simp at ho
end Go.Proofs.Ytbccpplpfcfboaa
