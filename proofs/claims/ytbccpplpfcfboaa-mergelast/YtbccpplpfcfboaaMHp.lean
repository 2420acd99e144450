/-
  Heaps of lists that wait, as plain mathematics. No program here, no conditions.
-/
import Derived.Test.YtbccpplpfcfboaaRMth
namespace Go.Proofs.Ytbccpplpfcfboaa
open Go.RowKit

/-- A list that waits: its value, its first item, the others, and which list it is. -/
structure Wt where
  v : Value
  x : Itm
  r : List Itm
  i : Nat
def wcmp (a b : Wt) : Int := if cmpI a.x b.x ≠ 0 then cmpI a.x b.x else cmpZ (a.i : Int) (b.i : Int)
theorem wcmp_cases (a b : Wt) : (cmpI a.x b.x = -1 ∧ wcmp a b = -1) ∨ (cmpI a.x b.x = 1 ∧ wcmp a b = 1) ∨ (cmpI a.x b.x = 0 ∧ a.i < b.i ∧ wcmp a b = -1) ∨ (cmpI a.x b.x = 0 ∧ a.i = b.i ∧ wcmp a b = 0) ∨ (cmpI a.x b.x = 0 ∧ b.i < a.i ∧ wcmp a b = 1) := by
  unfold wcmp
  have h2 := cmpZ_vals (a.i : Int) (b.i : Int)
  rcases cmpI_vals a.x b.x with k | k | k <;> rw [k] <;> simp <;> omega
theorem wcmp_neg (a b : Wt) : wcmp b a = - wcmp a b := by
  have h := cmpI_neg a.x b.x
  rcases wcmp_cases a b with k | k | k | k | k <;> rcases wcmp_cases b a with k2 | k2 | k2 | k2 | k2 <;> omega
theorem wcmp_trans {a b c : Wt} (h1 : wcmp a b ≤ 0) (h2 : wcmp b c ≤ 0) : wcmp a c ≤ 0 := by
  have t1 := cmpI_trans (a := a.x) (b := b.x) (c := c.x)
  have t2 := cmpI_lt_le (a := a.x) (b := b.x) (c := c.x)
  have t3 := cmpI_le_lt (a := a.x) (b := b.x) (c := c.x)
  rcases wcmp_cases a b with k | k | k | k | k <;> rcases wcmp_cases b c with k2 | k2 | k2 | k2 | k2 <;> rcases wcmp_cases a c with k3 | k3 | k3 | k3 | k3 <;> omega

def wleO (a b : Option Wt) : Prop := ∀ x y, a = some x → b = some y → wcmp x y ≤ 0
theorem wleO.tr {a b c : Option Wt} {y : Wt} (hb : b = some y) (h1 : wleO a b) (h2 : wleO b c) : wleO a c := fun x z hx hz => wcmp_trans (h1 x y hx hb) (h2 y z hb hz)
theorem wleO.mk {a b : Option Wt} {x y : Wt} (hx : a = some x) (hy : b = some y) (h : wcmp x y ≤ 0) : wleO a b := fun p q hp hq => by
  rw [hx] at hp; rw [hy] at hq
  injection hp with hp; injection hq with hq
  subst hp; subst hq; exact h
/-- The first n of f are a heap. -/
def HeapF (f : Nat → Option Wt) (n : Nat) : Prop := ∀ i, 0 < i → i < n → wleO (f ((i - 1) / 2)) (f i)
def swF (f : Nat → Option Wt) (i j : Nat) : Nat → Option Wt := fun k => if k = i then f j else if k = j then f i else f k
theorem swF_l (f : Nat → Option Wt) (i j : Nat) : swF f i j i = f j := by simp [swF]
theorem swF_r (f : Nat → Option Wt) (i j : Nat) : swF f i j j = f i := by
  unfold swF; split
  · next h => rw [h]
  · simp
theorem swF_o (f : Nat → Option Wt) {i j k : Nat} (h1 : k ≠ i) (h2 : k ≠ j) : swF f i j k = f k := by simp [swF, h1, h2]
/-- A heap but for j, which may have to go up. -/
def UpF (f : Nat → Option Wt) (j n : Nat) : Prop := (∀ i, 0 < i → i < n → i ≠ j → wleO (f ((i - 1) / 2)) (f i)) ∧ ∀ i, 0 < i → i < n → (i - 1) / 2 = j → 0 < j → wleO (f ((j - 1) / 2)) (f i)
theorem up_step {f : Nat → Option Wt} {j n p : Nat} {a b : Wt} (h : UpF f j n) (hj : 0 < j) (hn : j < n) (hp : (j - 1) / 2 = p) (ha : f j = some a) (hb : f p = some b) (hlt : wcmp a b < 0) : UpF (swF f p j) p n := by
  have hpj : p < j := by omega
  refine ⟨fun i h0 h1 h2 => ?_, fun i h0 h1 h2 h3 => ?_⟩
  · by_cases e : i = j
    · subst e
      rw [hp, swF_l, swF_r]
      exact .mk ha hb (by omega)
    · rw [swF_o f h2 e]
      by_cases e1 : (i - 1) / 2 = p
      · rw [e1, swF_l]
        have := h.1 i h0 h1 e
        rw [e1] at this
        exact .tr hb (.mk ha hb (by omega)) this
      · by_cases e2 : (i - 1) / 2 = j
        · rw [e2, swF_r]
          have := h.2 i h0 h1 e2 hj
          rwa [hp] at this
        · rw [swF_o f e1 e2]
          exact h.1 i h0 h1 e
  · have q1 : (p - 1) / 2 ≠ p := by omega
    have q2 : (p - 1) / 2 ≠ j := by omega
    rw [swF_o f q1 q2]
    have hpp := h.1 p h3 (by omega) (by omega)
    by_cases e : i = j
    · subst e
      rw [swF_r]
      exact hpp
    · rw [swF_o f (by omega) e]
      have := h.1 i h0 h1 e
      rw [h2] at this
      exact .tr hb hpp this
theorem up_stop {f : Nat → Option Wt} {j n : Nat} (h : UpF f j n) (hs : 0 < j → wleO (f ((j - 1) / 2)) (f j)) : HeapF f n := fun i h0 h1 => by
  by_cases e : i = j
  · subst e; exact hs h0
  · exact h.1 i h0 h1 e
/-- A heap but for i, which may have to go down. -/
def DownF (f : Nat → Option Wt) (i n : Nat) : Prop := (∀ k, 0 < k → k < n → (k - 1) / 2 ≠ i → wleO (f ((k - 1) / 2)) (f k)) ∧ ∀ k, 0 < k → k < n → (k - 1) / 2 = i → 0 < i → wleO (f ((i - 1) / 2)) (f k)
theorem down_step {f : Nat → Option Wt} {i j n : Nat} {a b : Wt} (h : DownF f i n) (hj : (j - 1) / 2 = i) (h0 : 0 < j) (hn : j < n) (ha : f j = some a) (hb : f i = some b) (hlt : wcmp a b < 0) (hc : ∀ k, 0 < k → k < n → (k - 1) / 2 = i → wleO (f j) (f k)) : DownF (swF f i j) j n := by
  have hij : i < j := by omega
  refine ⟨fun k k0 k1 k2 => ?_, fun k k0 k1 k2 k3 => ?_⟩
  · by_cases e : k = i
    · subst e
      rw [swF_l, swF_o f (by omega) (by omega)]
      exact h.2 j h0 hn hj k0
    · by_cases e1 : k = j
      · subst e1
        rw [hj, swF_l, swF_r]
        exact .mk ha hb (by omega)
      · rw [swF_o f e e1]
        by_cases e2 : (k - 1) / 2 = i
        · rw [e2, swF_l]
          exact hc k k0 k1 e2
        · rw [swF_o f e2 k2]
          exact h.1 k k0 k1 e2
  · rw [hj, swF_l, swF_o f (by omega) (by omega)]
    have := h.1 k k0 k1 (by omega)
    rwa [k2] at this
theorem down_stop {f : Nat → Option Wt} {i n : Nat} (h : DownF f i n) (hc : ∀ k, 0 < k → k < n → (k - 1) / 2 = i → wleO (f i) (f k)) : HeapF f n := fun k k0 k1 => by
  by_cases e : (k - 1) / 2 = i
  · rw [e]; exact hc k k0 k1 e
  · exact h.1 k k0 k1 e
theorem heap_min {f : Nat → Option Wt} {n : Nat} (h : HeapF f n) (hs : ∀ k, k < n → ∃ a, f k = some a) (a : Wt) (ha : f 0 = some a) : ∀ k b, k < n → f k = some b → wcmp a b ≤ 0 := by
  intro k
  induction k using Nat.strongRecOn with
  | ind k ih =>
    intro b hk hb
    by_cases e : k = 0
    · subst e
      rw [ha] at hb
      injection hb with hb
      subst hb
      have := wcmp_neg a a
      omega
    · obtain ⟨c, hc⟩ := hs ((k - 1) / 2) (by omega)
      exact wcmp_trans (ih _ (by omega) c (by omega) hc) (h k (by omega) hk c b hc hb)
/-- Two places of a list change what they hold. -/
def swp (l : List Wt) (i j : Nat) : List Wt := match l[i]?, l[j]? with
  | some a, some b => (l.set i b).set j a
  | _, _ => l
theorem swp_len (l : List Wt) (i j : Nat) : (swp l i j).length = l.length := by
  unfold swp; split <;> simp
theorem swp_set {l : List Wt} {i j : Nat} {a b : Wt} (ha : l[i]? = some a) (hb : l[j]? = some b) : swp l i j = (l.set i b).set j a := by simp [swp, ha, hb]
theorem swp_at {l : List Wt} {i j : Nat} (hi : i < l.length) (hj : j < l.length) : (fun k => (swp l i j)[k]?) = swF (fun k => l[k]?) i j := by
  funext k
  rw [swp_set (List.getElem?_eq_getElem hi) (List.getElem?_eq_getElem hj)]
  unfold swF
  rw [List.getElem?_set, List.getElem?_set]
  by_cases e1 : j = k
  · subst e1
    by_cases e2 : j = i
    · subst e2; simp [hi]
    · simp [hj, e2, hi]
  · by_cases e2 : i = k
    · subst e2; simp [e1, hi, hj]
    · simp [e1, e2, Ne.symm e1, Ne.symm e2]
theorem swp_perm (l : List Wt) (i j : Nat) : (swp l i j).Perm l := by
  unfold swp
  split
  · next a b ha hb =>
    obtain ⟨hi, rfl⟩ := List.getElem?_eq_some_iff.1 ha
    obtain ⟨hj, rfl⟩ := List.getElem?_eq_some_iff.1 hb
    exact List.set_set_perm hi hj
  · exact List.Perm.refl _

end Go.Proofs.Ytbccpplpfcfboaa
