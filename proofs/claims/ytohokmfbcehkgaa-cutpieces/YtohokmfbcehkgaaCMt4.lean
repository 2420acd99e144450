/-
  All pieces together, as plain mathematics. No program here.
-/
import Derived.Test.YtohokmfbcehkgaaCMt3
namespace Go.Proofs.Ytohokmfbcehkgaa
open Go.RowKit

/-- Cells whose places rise are those of each place, one behind the other. -/
theorem places_flat {α : Type} (p : α → Nat) : ∀ (l : List α) (n : Nat), (l.Pairwise fun a b => p a ≤ p b) → l.filter (fun a => decide (p a < n + 1)) = l.filter (fun a => decide (p a < n)) ++ l.filter (fun a => p a == n)
  | [], n, _ => rfl
  | c :: t, n, h => by
    rw [List.pairwise_cons] at h
    have ih := places_flat p t n h.2
    rcases Nat.lt_trichotomy (p c) n with g | g | g
    · have e1 : decide (p c < n + 1) = true := by simp; omega
      have e2 : decide (p c < n) = true := by simpa using g
      have e3 : (p c == n) = false := by simp; omega
      rw [List.filter_cons, List.filter_cons, List.filter_cons, if_pos e1, if_pos e2, if_neg (by simp [e3]), ih]
      rfl
    · have e1 : decide (p c < n + 1) = true := by simp; omega
      have e2 : decide (p c < n) = false := by simp; omega
      have e3 : (p c == n) = true := by simpa using g
      have hz : t.filter (fun a => decide (p a < n)) = [] := by
        rw [List.filter_eq_nil_iff]
        intro a ha
        have := h.1 a ha
        simp
        omega
      rw [List.filter_cons, List.filter_cons, List.filter_cons, if_pos e1, if_neg (by simp [e2]), if_pos e3, ih, hz]
      rfl
    · have e1 : decide (p c < n + 1) = false := by simp; omega
      have e2 : decide (p c < n) = false := by simp; omega
      have e3 : (p c == n) = false := by simp; omega
      rw [List.filter_cons, List.filter_cons, List.filter_cons, if_neg (by simp [e1]), if_neg (by simp [e2]), if_neg (by simp [e3]), ih]
theorem range_flat {α : Type} (p : α → Nat) (l : List α) (h : l.Pairwise fun a b => p a ≤ p b) (n : Nat) : (List.range n).flatMap (fun i => l.filter fun a => p a == i) = l.filter fun a => decide (p a < n) := by
  induction n with
  | zero =>
    symm
    simp
  | succ n ih =>
    rw [List.range_succ, List.flatMap_append, ih, places_flat p l n h]
    simp
theorem place_mono (bs : List (List UInt8)) {r s : List UInt8} (h : leT r s = true) : place bs r ≤ place bs s := by
  unfold place
  exact List.countP_mono_left fun b _ hb => leT_trans hb h
theorem splitL_flat {bs : List (List UInt8)} {l : List Cel} (hr : rising l = true) : (List.range (bs.length + 1)).flatMap (fun i => (splitL bs l)[i]?.getD []) = l := by
  have e : (List.range (bs.length + 1)).flatMap (fun i => (splitL bs l)[i]?.getD []) = (List.range (bs.length + 1)).flatMap (fun i => l.filter fun c => place bs c.row == i) := by
    rw [List.flatMap_def, List.flatMap_def]
    congr 1
    refine List.map_congr_left fun i hi => ?_
    rw [splitL_at bs l (by have := List.mem_range.1 hi; omega)]
    rfl
  rw [e, range_flat (fun c : Cel => place bs c.row) l ((rising_pair l hr).imp fun {a b} hab => place_mono bs (row_le (by omega))) (bs.length + 1), List.filter_eq_self]
  intro c _
  have := place_le bs c.row
  simp
  omega
/-- What is so of all pieces. -/
structure Good (l : List Cel) (bs : List (List UInt8)) (m : Int) (PL : List (Nat × List Cel)) : Prop where
  ne : ∀ q ∈ PL, q.2 ≠ []
  at_ : ∀ q ∈ PL, ∀ a ∈ q.2, place bs a.row = q.1
  one : ∀ q ∈ PL, m < (q.2.length : Int) → ∀ a ∈ q.2, ∀ b ∈ q.2, a.row = b.row
  mono : PL.Pairwise fun a b => a.1 ≤ b.1
  apart : PL.Pairwise fun a b => ∀ x ∈ a.2, ∀ y ∈ b.2, x.row ≠ y.row
  flat : (PL.map (·.2)).flatten = l
theorem upP_flat (LL : List (List Cel)) (m : Int) (n : Nat) : ((upP LL m n).map (·.2)).flatten = (List.range n).flatMap fun i => LL[i]?.getD [] := by
  induction n with
  | zero => rfl
  | succ n ih =>
    rw [upP_succ, List.map_append, List.flatten_append, ih, List.range_succ, List.flatMap_append]
    congr 1
    rw [List.map_map]
    have : ((fun x : Nat × List Cel => x.2) ∘ fun c => (n, c)) = (id : List Cel → List Cel) := rfl
    rw [this, List.map_id, rollL_flat]
    simp
theorem upP_good (l : List Cel) (bs : List (List UInt8)) (m : Int) (hr : rising l = true) : ∀ n, n ≤ bs.length + 1 →
    (∀ q ∈ upP (splitL bs l) m n, q.1 < n ∧ Rolled m (l.filter fun c => place bs c.row == q.1) q.2) ∧
    ((upP (splitL bs l) m n).Pairwise fun a b => a.1 ≤ b.1) ∧ ((upP (splitL bs l) m n).Pairwise fun a b => ∀ x ∈ a.2, ∀ y ∈ b.2, x.row ≠ y.row) := by
  intro n
  induction n with
  | zero => intro _; simp [upP]
  | succ n ih =>
    intro hn
    obtain ⟨h1, h2, h3⟩ := ih (by omega)
    have hli : (splitL bs l)[n]?.getD [] = l.filter fun c => place bs c.row == n := by rw [splitL_at bs l (by omega)]; rfl
    have hrl := rising_filter hr fun c => place bs c.row == n
    rw [upP_succ, hli]
    have hin : ∀ q ∈ (rollL m (l.filter fun c => place bs c.row == n)).map (fun c => (n, c)), q.1 = n ∧ Rolled m (l.filter fun c => place bs c.row == n) q.2 := fun q hq => by
      obtain ⟨c, hc, rfl⟩ := List.mem_map.1 hq
      exact ⟨rfl, roll_rolled hrl c hc⟩
    have hpl : ∀ (k : Nat) (L : List Cel), Rolled m (l.filter fun c => place bs c.row == k) L → ∀ a ∈ L, place bs a.row = k := fun k L hL a ha => by
      have := List.mem_filter.1 (hL.sub.subset ha)
      simpa using this.2
    refine ⟨fun q hq => ?_, ?_, ?_⟩
    · rcases List.mem_append.1 hq with hq | hq
      · exact ⟨by have := (h1 q hq).1; omega, (h1 q hq).2⟩
      · obtain ⟨g1, g2⟩ := hin q hq
        rw [g1]
        exact ⟨by omega, g2⟩
    · rw [List.pairwise_append]
      refine ⟨h2, ?_, fun a ha b hb => ?_⟩
      · rw [List.pairwise_map]
        exact List.pairwise_of_forall fun _ _ => Nat.le_refl _
      · have g1 := (h1 a ha).1
        have g2 := (hin b hb).1
        omega
    · rw [List.pairwise_append]
      refine ⟨h3, ?_, fun a ha b hb x hx y hy he => ?_⟩
      · rw [List.pairwise_map]
        exact roll_apart hrl
      · have g1 := (h1 a ha).1
        have g2 := (hin b hb).1
        have e1 := hpl _ _ (h1 a ha).2 x hx
        have e2 := hpl _ _ (hin b hb).2 y hy
        rw [he] at e1
        omega
theorem allV_good {l : List Cel} {bs : List (List UInt8)} {m : Int} (hb : bords bs = true) (hr : rising l = true) (hm : ¬ m < 1) : allE l bs m = 0 ∧ Good l bs m (allV l bs m) := by
  have he : splitE l bs = 0 := by unfold splitE; rw [hb, hr]; rfl
  have e1 : allE l bs m = 0 := by unfold allE; rw [he, if_neg hm]; rfl
  have e2 : allV l bs m = upP (splitL bs l) m (bs.length + 1) := by unfold allV; rw [e1]; rfl
  refine ⟨e1, ?_⟩
  rw [e2]
  obtain ⟨h1, h2, h3⟩ := upP_good l bs m hr (bs.length + 1) (Nat.le_refl _)
  refine ⟨fun q hq => (h1 q hq).2.ne, fun q hq a ha => ?_, fun q hq => (h1 q hq).2.one, h2, h3, by rw [upP_flat, splitL_flat hr]⟩
  have := List.mem_filter.1 ((h1 q hq).2.sub.subset ha)
  simpa using this.2
theorem allE_bad {l : List Cel} {bs : List (List UInt8)} {m : Int} : (bords bs = false → allE l bs m = 1) ∧ (bords bs = true → rising l = false → allE l bs m = 40) := by
  refine ⟨fun hb => ?_, fun hb hr => ?_⟩
  · have he : splitE l bs = 1 := by unfold splitE; rw [hb]; rfl
    unfold allE
    rw [he]
    rfl
  · have he : splitE l bs = 40 := by unfold splitE; rw [hb, hr]; rfl
    unfold allE
    rw [he]
    rfl
/-- Of the pieces so far, and the next one. -/
theorem Good.ahead {l : List Cel} {bs : List (List UInt8)} {m : Int} {PL : List (Nat × List Cel)} (h : Good l bs m PL) {k t : Nat} {c : List Cel} (hk : PL[k]? = some (t, c)) : ∀ x ∈ ((PL.take k).map (·.2)).flatten, ∀ y ∈ c, x.row ≠ y.row := by
  intro x hx y hy
  obtain ⟨L, hL, hxL⟩ := List.mem_flatten.1 hx
  obtain ⟨q, hq, rfl⟩ := List.mem_map.1 hL
  obtain ⟨j, hj, rfl⟩ := List.getElem_of_mem hq
  obtain ⟨hk1, hk2⟩ := List.getElem?_eq_some_iff.1 hk
  have hap := List.pairwise_iff_getElem.1 h.apart
  rw [List.getElem_take] at hxL
  have hjk : j < k := by simp at hj; omega
  have := hap j k (by omega) hk1 hjk x hxL
  rw [hk2] at this
  exact this y hy
theorem Good.up {l : List Cel} {bs : List (List UInt8)} {m : Int} {PL : List (Nat × List Cel)} (h : Good l bs m PL) {k t s : Nat} {c d : List Cel} (hk : PL[k + 1]? = some (t, c)) (hj : PL[k]? = some (s, d)) : s ≤ t := by
  obtain ⟨hk1, hk2⟩ := List.getElem?_eq_some_iff.1 hk
  obtain ⟨hj1, hj2⟩ := List.getElem?_eq_some_iff.1 hj
  have := List.pairwise_iff_getElem.1 h.mono k (k + 1) hj1 hk1 (by omega)
  rw [hk2, hj2] at this
  exact this
end Go.Proofs.Ytohokmfbcehkgaa
