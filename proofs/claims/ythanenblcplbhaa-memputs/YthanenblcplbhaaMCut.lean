/-
  Reading a name of a key: cutMarked. Condition: the text has at most 1000 bytes.
-/
import Derived.Test.YthanenblcplbhaaMDcd
namespace Go.Proofs.Ythanenblcplbhaa
open Go.RowKit

/-- A name at the beginning of a key, and what is behind it. -/
def cutM : List UInt8 → Option (List UInt8 × List UInt8)
  | [] => none
  | b :: t => if b = 0 then (match t with
      | [] => none
      | m :: u => if m = 255 then (cutM u).map (fun x => (0 :: x.1, x.2)) else if m = 1 then some ([], u) else none)
    else (cutM t).map (fun x => (b :: x.1, x.2))
def cutV (s : List UInt8) : Value := match cutM s with
  | some x => .tuple #[.string (B x.1), .string (B x.2), .bool true]
  | none => .tuple #[.string ⟨#[]⟩, .string ⟨#[]⟩, .bool false]

/-- r was read already. -/
def after (r : List UInt8) (o : Option (List UInt8 × List UInt8)) : Option (List UInt8 × List UInt8) := o.map fun x => (r ++ x.1, x.2)
theorem after_nil (o : Option (List UInt8 × List UInt8)) : after [] o = o := by cases o <;> simp [after]
theorem after_byte (r : List UInt8) (b : UInt8) (t : List UInt8) (h : b ≠ 0) : after r (cutM (b :: t)) = after (r ++ [b]) (cutM t) := by
  rw [cutM.eq_def]; simp only [if_neg h]
  cases cutM t <;> simp [after]
theorem after_zero (r t : List UInt8) : after r (cutM (0 :: 255 :: t)) = after (r ++ [0]) (cutM t) := by
  rw [cutM.eq_def]; simp only [if_true]
  cases cutM t <;> simp [after]
theorem cutM_end (t : List UInt8) : cutM (0 :: 1 :: t) = some ([], t) := by
  rw [cutM.eq_def]; simp
theorem cutM_bad (m : UInt8) (t : List UInt8) (h1 : m ≠ 255) (h2 : m ≠ 1) : cutM (0 :: m :: t) = none := by
  rw [cutM.eq_def]; simp [h1, h2]
theorem cutM_one (l : List UInt8) (h : l.length ≤ 1) : cutM l = none := by
  match l, h with
  | [], _ => rw [cutM.eq_def]
  | [b], _ =>
    rw [cutM.eq_def]
    by_cases hb : b = 0
    · simp [hb]
    · simp [hb]; rw [cutM.eq_def]

theorem cutM_len : ∀ (n : Nat) (s : List UInt8), s.length ≤ n → ∀ x, cutM s = some x → x.1.length + x.2.length + 2 ≤ s.length := by
  intro n
  induction n with
  | zero =>
    intro s hs x h
    have : s = [] := List.eq_nil_of_length_eq_zero (by omega)
    subst this
    rw [cutM.eq_def] at h; cases h
  | succ n ih =>
    intro s hs x h
    cases s with
    | nil => rw [cutM.eq_def] at h; cases h
    | cons b t =>
      by_cases hb : b = 0
      · subst hb
        cases t with
        | nil => rw [cutM_one _ (by simp)] at h; cases h
        | cons m u =>
          by_cases h1 : m = 255
          · subst h1
            rw [cutM.eq_def] at h
            simp only [if_true] at h
            cases hu : cutM u with
            | none => rw [hu] at h; cases h
            | some y =>
              rw [hu] at h
              have := ih u (by simp at hs; omega) y hu
              simp only [Option.map_some, Option.some.injEq] at h
              subst h
              simp only [List.length_cons]
              omega
          · by_cases h2 : m = 1
            · subst h2
              rw [cutM_end] at h
              injection h with h
              subst h
              simp
            · rw [cutM_bad _ _ h1 h2] at h; cases h
      · rw [cutM.eq_def] at h
        simp only [if_neg hb] at h
        cases hu : cutM t with
        | none => rw [hu] at h; cases h
        | some y =>
          rw [hu] at h
          have := ih t (by simp at hs; omega) y hu
          simp only [Option.map_some, Option.some.injEq] at h
          subst h
          simp only [List.length_cons]
          omega
theorem cutM_le {s : List UInt8} {x : List UInt8 × List UInt8} (h : cutM s = some x) : x.1.length + x.2.length + 2 ≤ s.length := cutM_len _ s (Nat.le_refl _) x h

/-- Which cell a key is the key of. -/
def fromK (s : List UInt8) : Option Cel := match cutM s with
  | none => none
  | some x => match cutM x.2 with
    | none => none
    | some y => if y.2.length = 16 then
        (if mayB ⟨x.1, y.1, neg64 (highV (y.2.take 8)), neg64 (highV (y.2.drop 8)), false, []⟩ = true then some ⟨x.1, y.1, neg64 (highV (y.2.take 8)), neg64 (highV (y.2.drop 8)), false, []⟩ else none)
      else none
def fromV (s : List UInt8) : Value := match fromK s with
  | some c => .tuple #[cv c, .int .i64 0]
  | none => .tuple #[.agg zeroCell, .int .i64 1]

/-- The frame of FromKey: the result, and the names. -/
structure Sf (w W : World) (n0 n1 : List UInt8) : Prop where
  rs : Bk W w.heap.size 31 zeroCell
  nm : Bk W (w.heap.size + 1) 58 #[.string (B n0), .string (B n1)]
  od : Old w W
theorem Sf.old {w W W' : World} {n0 n1 : List UInt8} (h : Sf w W n0 n1) (k : Old W W') : Sf w W' n0 n1 := ⟨h.rs.old k, h.nm.old k, h.od.tr k⟩
theorem Sf.set0 {w W : World} {n0 n1 : List UInt8} (h : Sf w W n0 n1) (a : List UInt8) : Sf w (W.setCell ⟨w.heap.size + 1, 0, none⟩ (.string (B a))) a n1 :=
  ⟨h.rs.far (by simp) _, h.nm.set_ 0 _, h.od.st (by simp) _⟩
theorem Sf.set1 {w W : World} {n0 n1 : List UInt8} (h : Sf w W n0 n1) (a : List UInt8) : Sf w (W.setCell ⟨w.heap.size + 1, 1, none⟩ (.string (B a))) n0 a :=
  ⟨h.rs.far (by simp) _, h.nm.set_ 1 _, h.od.st (by simp) _⟩

theorem Sf.held {w W : World} {n0 n1 : List UInt8} (h : Sf w W n0 n1) : Sf w W n0 n1 ∧ W.cell? ⟨w.heap.size + 1, 0, none⟩ = some (.string (B n0)) ∧ W.cell? ⟨w.heap.size + 1, 1, none⟩ = some (.string (B n1)) := ⟨h, h.nm.cell 0, h.nm.cell 1⟩
theorem highV_lt8 (l : List UInt8) (h : l.length ≤ 8) : highV l < 18446744073709551616 := by
  have h1 := highV_lt l
  have h2 : 256 ^ l.length ≤ 256 ^ 8 := Nat.pow_le_pow_right (by omega) h
  omega
end Go.Proofs.Ythanenblcplbhaa
