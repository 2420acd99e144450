/-
  The reference's FromKey answers what the code's does. Condition: the text has at most 1000000 bytes.
-/
import Derived.Test.YtlmlopdakbbbjaaDoorRef
namespace Go.Proofs.YtlmlopdakbbbjaaDoor
open Go.RowKit

theorem cutM_form_aux : ∀ (n : Nat) (s : List UInt8), s.length ≤ n → ∀ x, cutM s = some x → s = marks x.1 ++ 0 :: 1 :: x.2 := by
  intro n
  induction n with
  | zero =>
    intro s hs x h
    have : s = [] := List.eq_nil_of_length_eq_zero (by omega)
    subst this
    rw [cutM.eq_def] at h; cases h
  | succ n ih =>
    intro s hs x h
    cases s with
    | nil => rw [cutM.eq_def] at h; cases h
    | cons b t =>
      by_cases hb : b = 0
      · subst hb
        cases t with
        | nil => rw [cutM_one _ (by simp)] at h; cases h
        | cons m u =>
          by_cases h1 : m = 255
          · subst h1
            rw [cutM.eq_def] at h
            simp only [if_true] at h
            cases hu : cutM u with
            | none => rw [hu] at h; cases h
            | some y =>
              rw [hu] at h
              have := ih u (by simp at hs; omega) y hu
              simp only [Option.map_some, Option.some.injEq] at h
              subst h
              rw [marks_cons]
              simp only [mark1, if_true, List.cons_append, List.nil_append]
              rw [← this]
          · by_cases h2 : m = 1
            · subst h2
              rw [cutM_end] at h
              injection h with h
              subst h
              rfl
            · rw [cutM_bad _ _ h1 h2] at h; cases h
      · rw [cutM.eq_def] at h
        simp only [if_neg hb] at h
        cases hu : cutM t with
        | none => rw [hu] at h; cases h
        | some y =>
          rw [hu] at h
          have := ih t (by simp at hs; omega) y hu
          simp only [Option.map_some, Option.some.injEq] at h
          subst h
          rw [marks_cons]
          simp only [mark1, if_neg hb, List.cons_append, List.nil_append]
          rw [← this]
theorem cutM_form {s : List UInt8} {x : List UInt8 × List UInt8} (h : cutM s = some x) : s = marks x.1 ++ 0 :: 1 :: x.2 := cutM_form_aux _ s (Nat.le_refl _) x h
theorem cutM_drop {s : List UInt8} {x : List UInt8 × List UInt8} (h : cutM s = some x) : s.drop (s.length - x.2.length) = x.2 := by
  have hf := cutM_form h
  have e : s = (marks x.1 ++ [0, 1]) ++ x.2 := by rw [hf]; simp
  have hl : s.length - x.2.length = (marks x.1 ++ [0, 1]).length := by rw [e]; simp; omega
  rw [hl]
  conv => lhs; rw [e]
  exact List.drop_left

theorem high8_highV (l : List UInt8) (h : l.length = 8) : high8 (highV l) = l := by
  match l, h with
  | [b0, b1, b2, b3, b4, b5, b6, b7], _ =>
    have h0 := b0.toNat_lt
    have h1 := b1.toNat_lt
    have h2 := b2.toNat_lt
    have h3 := b3.toNat_lt
    have h4 := b4.toNat_lt
    have h5 := b5.toNat_lt
    have h6 := b6.toNat_lt
    have h7 := b7.toNat_lt
    simp only [high8, highV, List.foldl_cons, List.foldl_nil, List.cons.injEq, and_true]
    refine ⟨?_, ?_, ?_, ?_, ?_, ?_, ?_, ?_⟩ <;> (apply UInt8.toNat_inj.1; rw [UInt8.toNat_ofNat']; omega)

/-- The cell that a key's parts tell. -/
def told (x y : List UInt8 × List UInt8) : Cel := ⟨x.1, y.1, neg64 (highV (y.2.take 8)), neg64 (highV (y.2.drop 8)), false, []⟩
theorem told_ok (x y : List UInt8 × List UInt8) : (told x y).ok := ⟨neg_lt _, neg_lt _⟩
theorem key_told {s : List UInt8} {x y : List UInt8 × List UInt8} (h1 : cutM s = some x) (h2 : cutM x.2 = some y) (h3 : y.2.length = 16) : key (told x y) = s := by
  have e1 := cutM_form h1
  have e2 := cutM_form h2
  have t1 : (y.2.take 8).length = 8 := by simp; omega
  have t2 : (y.2.drop 8).length = 8 := by simp; omega
  have k1 := highV_lt8 (y.2.take 8) (by omega)
  have k2 := highV_lt8 (y.2.drop 8) (by omega)
  unfold key told
  simp only []
  rw [neg_neg _ k1, neg_neg _ k2, high8_highV _ t1, high8_highV _ t2, e1, e2]
  simp
theorem rkey_told {s : List UInt8} {x y : List UInt8 × List UInt8} (h1 : cutM s = some x) (h2 : cutM x.2 = some y) (h3 : y.2.length = 16) : (rkeyB (told x y) == s) = mayB (told x y) := by
  unfold rkeyB
  cases hm : mayB (told x y)
  · simp only [Bool.false_eq_true, if_false]
    rw [beq_eq_false_iff_ne]
    rintro rfl
    have := cutM_le h1
    simp at this
  · simp only [if_true]
    rw [beq_iff_eq]
    exact key_told h1 h2 h3

theorem fromK_told {s : List UInt8} {x y : List UInt8 × List UInt8} (h1 : cutM s = some x) (h2 : cutM x.2 = some y) (h3 : y.2.length = 16) : fromK s = if mayB (told x y) = true then some (told x y) else none := by
  unfold fromK
  rw [h1]
  show (match cutM x.2 with | none => none | some y => if y.2.length = 16 then (if mayB (told x y) = true then some (told x y) else none) else none) = _
  rw [h2]
  show (if y.2.length = 16 then (if mayB (told x y) = true then some (told x y) else none) else none) = _
  rw [if_pos h3]

/-- The frame of the reference's FromKey: the result, and the cell. -/
structure Sr (w W : World) (c : Cel) : Prop where
  rs : Bk W w.heap.size 45 zeroCell
  cl : Bk W (w.heap.size + 1) 45 (cells c)
  od : Old w W
theorem Sr.old {w W W' : World} {c : Cel} (h : Sr w W c) (k : Old W W') : Sr w W' c := ⟨h.rs.old k, h.cl.old k, h.od.tr k⟩
theorem Sr.set_ {w W : World} {c c' : Cel} (h : Sr w W c) (o : Nat) (u : Value) (hc : (cells c).setIfInBounds o u = cells c') : Sr w (W.setCell ⟨w.heap.size + 1, o, none⟩ u) c' :=
  ⟨h.rs.far (by simp) _, by rw [← hc]; exact h.cl.set_ o u, h.od.st (by simp) _⟩
def zeroC : Cel := ⟨[], [], 0, 0, false, []⟩

end Go.Proofs.YtlmlopdakbbbjaaDoor
