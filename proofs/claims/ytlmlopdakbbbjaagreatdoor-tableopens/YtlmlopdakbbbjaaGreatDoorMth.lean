/-
  What is read is what was written: the mathematics of entries and blocks. No program here.
-/
import Derived.Test.YtlmlopdakbbbjaaGreatDoorRde
import Derived.Test.YtlmlopdakbbbjaaGreatDoorBld
namespace Go.Proofs.YtlmlopdakbbbjaaGreatDoor
open Go.RowKit

theorem tk_app (p q : List UInt8) (n : Nat) (h : p.length = n) : tk (p ++ q, false) n = (p, (q, false)) := by
  rw [tk_yes rfl (by simp; omega)]
  simp [← h]
theorem tk_ok {s : List UInt8 × Bool} {n : Nat} (h : (tk s n).2.2 = false) : s.2 = false ∧ s.1 = (tk s n).1 ++ (tk s n).2.1 ∧ (tk s n).1.length = n := by
  unfold tk at *
  split at h
  · cases h
  · rename_i hn
    rw [if_neg hn]
    simp at hn ⊢
    exact ⟨hn.1, by omega⟩
theorem two_len (n : Nat) : (two n).length = 2 := rfl
theorem lowV_two (n : Nat) (h : n < 65536) : lowV (two n) = n := by
  simp only [lowV, two, List.foldr_cons, List.foldr_nil, UInt8.toNat_ofNat']
  omega
theorem two_lowV (l : List UInt8) (h : l.length = 2) : two (lowV l) = l := by
  match l, h with
  | [a, b], _ =>
    have h0 := a.toNat_lt
    have h1 := b.toNat_lt
    simp only [two, lowV, List.foldr_cons, List.foldr_nil, List.cons.injEq, and_true]
    refine ⟨?_, ?_⟩ <;> (apply UInt8.toNat_inj.1; rw [UInt8.toNat_ofNat']; omega)
theorem lowV_one (b : UInt8) : lowV [b] = b.toNat := by simp [lowV]
theorem one_lowV (l : List UInt8) (h : l.length = 1) : [UInt8.ofNat (lowV l)] = l := by
  match l, h with
  | [a], _ => rw [lowV_one]; simp

theorem share_take (a b : List UInt8) : a.take (share a b) = b.take (share a b) := by
  induction a generalizing b with
  | nil => simp [share_nil_left]
  | cons x a ih =>
    cases b with
    | nil => simp [share_nil_right]
    | cons y b =>
      rw [share]
      split
      · rename_i h
        subst h
        simp [ih b]
      · simp

theorem fromK_some {k : List UInt8} {x : Cel} (h : fromK k = some x) : key x = k ∧ mayB x = true ∧ x.ok ∧ x.del = false ∧ x.val = [] := by
  cases h1 : cutM k with
  | none => simp [fromK, h1] at h
  | some p =>
    cases h2 : cutM p.2 with
    | none => simp [fromK, h1, h2] at h
    | some q =>
      by_cases h3 : q.2.length = 16
      · rw [fromK_told h1 h2 h3] at h
        split at h
        · rename_i hm
          injection h with h
          subst h
          exact ⟨key_told h1 h2 h3, hm, told_ok p q, rfl, rfl⟩
        · cases h
      · simp [fromK, h1, h2, h3] at h

theorem key_dress (x : Cel) (l : List UInt8) : key (dress x l) = key x := rfl

/-- What is told of an entry is what was written. -/
theorem rdE_some {lends l : List UInt8} {c : Cel} {r : List UInt8} (h : rdE lends l = some (c, r)) : mayB c = true ∧ c.ok ∧ l = ent lends c ++ r ∧ eK lends l = key c ∧ (eV l).2 = (r, false) := by
  unfold rdE at h
  split at h
  · cases h
  rename_i h1
  split at h
  · cases h
  rename_i h2
  have h2 : share lends (eK lends l) = lowV (eA l).1 := by simpa using h2
  cases hk : fromK (eK lends l) with
  | none => rw [hk] at h; cases h
  | some x =>
    rw [hk] at h
    simp only at h
    split at h
    case isFalse => cases h
    rename_i hm
    injection h with h
    injection h with hc hr
    have hs : (eV l).2.2 = false := by cases hx : (eV l).2.2 with
      | false => rfl
      | true => exact absurd (.inl hx) h1
    have hn : lowV (eA l).1 ≤ lends.length := by
      rcases Nat.lt_or_ge lends.length (lowV (eA l).1) with g | g
      · exact absurd (.inr (.inl g)) h1
      · exact g
    have hd : lowV (eD l).1 ≤ 1 := by
      rcases Nat.lt_or_ge 1 (lowV (eD l).1) with g | g
      · exact absurd (.inr (.inr g)) h1
      · exact g
    obtain ⟨s6, e6, n6⟩ := tk_ok (s := (eF l).2) (n := lowV (eF l).1) hs
    obtain ⟨s5, e5, n5⟩ := tk_ok (s := (eD l).2) (n := 1) s6
    obtain ⟨s4, e4, n4⟩ := tk_ok (s := (eC l).2) (n := 1) s5
    obtain ⟨s3, e3, n3⟩ := tk_ok (s := (eB l).2) (n := lowV (eB l).1) s4
    obtain ⟨s2, e2, n2⟩ := tk_ok (s := (eA l).2) (n := 2) s3
    obtain ⟨s1, e1, n1⟩ := tk_ok (s := (l, false)) (n := 2) s2
    change (eF l).2.1 = (eV l).1 ++ (eV l).2.1 at e6
    change (eD l).2.1 = (eF l).1 ++ (eF l).2.1 at e5
    change (eC l).2.1 = (eD l).1 ++ (eD l).2.1 at e4
    change (eB l).2.1 = (eC l).1 ++ (eC l).2.1 at e3
    change (eA l).2.1 = (eB l).1 ++ (eB l).2.1 at e2
    change l = (eA l).1 ++ (eA l).2.1 at e1
    change (eV l).1.length = lowV (eF l).1 at n6
    change (eF l).1.length = 1 at n5
    change (eD l).1.length = 1 at n4
    change (eC l).1.length = lowV (eB l).1 at n3
    change (eB l).1.length = 2 at n2
    change (eA l).1.length = 2 at n1
    obtain ⟨kk, mm, oo, -, -⟩ := fromK_some hk
    have hkc : key c = eK lends l := by rw [← hc, key_dress, kk]
    refine ⟨by rw [← hc]; exact hm, by rw [← hc]; exact oo, ?_, hkc.symm, ?_⟩
    · have hkl : (eK lends l).length - lowV (eA l).1 = (eC l).1.length := by
        unfold eK
        simp
        omega
      have hkd : (eK lends l).drop (lowV (eA l).1) = (eC l).1 := by
        unfold eK
        rw [List.drop_append_of_le_length (by simp; omega)]
        simp
      have hcd : c.del = decide (lowV (eD l).1 = 1) := by rw [← hc]; rfl
      have hcv : c.val = (eV l).1 := by rw [← hc]; rfl
      have hfl : flag1 c.del = (eD l).1 := by
        rw [hcd]
        have h3 := one_lowV _ n4
        rcases (show lowV (eD l).1 = 0 ∨ lowV (eD l).1 = 1 by omega) with g | g
        · rw [g] at h3 ⊢; exact h3
        · rw [g] at h3 ⊢; exact h3
      unfold ent
      rw [hkc, h2, hkl, hkd, hfl, hcv, n6, one_lowV _ n5, n3, two_lowV _ n1, two_lowV _ n2, ← hr]
      rw [List.append_assoc, List.append_assoc, List.append_assoc, List.append_assoc, List.append_assoc, ← e6, ← e5, ← e4, ← e3, ← e2]
      exact e1
    · rw [← hr, ← hs]
/-- What was written is told. -/
theorem rdE_ent (lends : List UInt8) (c : Cel) (r : List UInt8) (hm : mayB c = true) (hok : c.ok) : rdE lends (ent lends c ++ r) = some (c, r) := by
  have hkl := key_len c hm
  have hsl := (share_le lends (key c))
  have hv := (mayB_parts hm).2.2.2.2
  generalize hl : ent lends c ++ r = l
  have e0 : l = two (share lends (key c)) ++ (two ((key c).length - share lends (key c)) ++ ((key c).drop (share lends (key c)) ++ (flag1 c.del ++ ([UInt8.ofNat c.val.length] ++ (c.val ++ r))))) := by
    rw [← hl]; simp [ent]
  have a1 : eA l = (two (share lends (key c)), (two ((key c).length - share lends (key c)) ++ ((key c).drop (share lends (key c)) ++ (flag1 c.del ++ ([UInt8.ofNat c.val.length] ++ (c.val ++ r)))), false)) := by
    rw [eA, e0]; exact tk_app _ _ _ rfl
  have a2 : eB l = (two ((key c).length - share lends (key c)), ((key c).drop (share lends (key c)) ++ (flag1 c.del ++ ([UInt8.ofNat c.val.length] ++ (c.val ++ r))), false)) := by
    rw [eB, a1]; exact tk_app _ _ _ rfl
  have a3 : eC l = ((key c).drop (share lends (key c)), (flag1 c.del ++ ([UInt8.ofNat c.val.length] ++ (c.val ++ r)), false)) := by
    rw [eC, a2]; exact tk_app _ _ _ (by rw [lowV_two _ (by omega)]; simp)
  have a4 : eD l = (flag1 c.del, ([UInt8.ofNat c.val.length] ++ (c.val ++ r), false)) := by
    rw [eD, a3]; exact tk_app _ _ _ (flag1_len _)
  have a5 : eF l = ([UInt8.ofNat c.val.length], (c.val ++ r, false)) := by
    rw [eF, a4]; exact tk_app _ _ _ rfl
  have a6 : eV l = (c.val, (r, false)) := by
    rw [eV, a5]; exact tk_app _ _ _ (by rw [lowV_one, UInt8.toNat_ofNat']; omega)
  have hk : eK lends l = key c := by
    unfold eK
    rw [a1, a3, lowV_two _ (by omega), share_take, List.take_append_drop]
  have hfl : lowV (flag1 c.del) ≤ 1 ∧ decide (lowV (flag1 c.del) = 1) = c.del := by cases c.del <;> exact ⟨by decide, by decide⟩
  have hdr : dress (bare c) l = c := by
    unfold dress bare
    rw [a4, a6]
    simp only [hfl.2]
  unfold rdE
  rw [if_neg ?_, if_neg ?_, hk, fromK_key c hm hok]
  · simp only [hdr, hm, if_true, a6]
  · rw [hk, a1, lowV_two _ (by omega)]; simp
  · rw [a6, a1, a4, lowV_two _ (by omega)]
    simp
    omega
end Go.Proofs.YtlmlopdakbbbjaaGreatDoor
