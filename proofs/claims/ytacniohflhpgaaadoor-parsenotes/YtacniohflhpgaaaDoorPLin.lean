/-
  Lines one behind the other, as plain lists: what Cells tells of them. No program in it.
-/
import Derived.Test.YtacniohflhpgaaaDoorPMth
namespace Go.Proofs.YtacniohflhpgaaaDoor

/-- Lines, a byte 10 behind each. -/
def joinL (M : List (List UInt8)) : List UInt8 := M.flatMap fun x => x ++ [10]
theorem joinL_snoc (M : List (List UInt8)) (x : List UInt8) : joinL (M ++ [x]) = joinL M ++ (x ++ [10]) := by simp [joinL]
theorem joinL_cons (M : List (List UInt8)) (x : List UInt8) : joinL (x :: M) = x ++ 10 :: joinL M := by simp [joinL]
theorem spl_join (M : List (List UInt8)) (t : List UInt8) (h : ∀ x ∈ M, (10 : UInt8) ∉ x) (ht : (10 : UInt8) ∉ t) : spl 10 (joinL M ++ t) = M ++ [t] := by
  induction M with
  | nil => exact spl_none 10 t ht
  | cons x M ih =>
    rw [joinL_cons, List.append_assoc, List.cons_append, spl_app 10 x _ (h x (by simp)), ih (fun y hy => h y (by simp [hy]))]
    rfl
/-- One line: it says something right, or it is wrong. -/
theorem one_line (x : List UInt8) (h : (10 : UInt8) ∉ x) (hl : x.length ≤ 4000) :
    (outE x = 0 ∧ (outL x).length ≤ 1 ∧ ∀ i R, scan i (x :: R) = pre (outL x) (scan (i + 1) R)) ∨ (outE x = 70 ∧ outL x = [] ∧ ∀ i R, scan i (x :: R) = .error (i + 1)) := by
  unfold outE outL
  rw [if_neg (by omega), if_neg (by omega), spl_none 10 x h]
  by_cases hn : nothing x = true
  · refine .inl ?_
    rw [scan_nothing 0 x [] hn]
    exact ⟨rfl, Nat.zero_le _, fun i R => by rw [scan_nothing i x R hn]; exact (pre_nil _).symm⟩
  · have hn' : nothing x = false := by simpa using hn
    cases hx : lineO x with
    | none =>
      refine .inr ?_
      rw [scan_none 0 x [] hn' hx]
      exact ⟨rfl, rfl, fun i R => scan_none i x R hn' hx⟩
    | some c =>
      refine .inl ?_
      rw [scan_some 0 x [] c hn' hx]
      exact ⟨rfl, Nat.le_refl _, fun i R => scan_some i x R c hn' hx⟩
/-- What is known behind these lines: the first that is wrong, and the cells. -/
def Kn (M : List (List UInt8)) (bad : Nat) (all : List Cel) : Prop :=
  (bad = 0 ∧ all.length ≤ M.length ∧ ∀ R, scan 0 (M ++ R) = pre all (scan M.length R)) ∨ (0 < bad ∧ bad ≤ M.length ∧ ∀ R, scan 0 (M ++ R) = .error bad)
theorem Kn.nil : Kn [] 0 [] := .inl ⟨rfl, Nat.le_refl _, fun R => by rw [pre_nil]; rfl⟩
theorem Kn.ok {M : List (List UInt8)} {all : List Cel} (k : Kn M 0 all) (x : List UInt8) (h : (10 : UInt8) ∉ x) (hl : x.length ≤ 4000) (he : outE x = 0) : Kn (M ++ [x]) 0 (all ++ outL x) := by
  rcases k with ⟨-, h1, h2⟩ | ⟨h1, -⟩
  · rcases one_line x h hl with ⟨-, g1, g2⟩ | ⟨g, -⟩
    · refine .inl ⟨rfl, by simp; omega, fun R => ?_⟩
      rw [List.append_assoc, List.singleton_append, h2, g2, pre_pre]
      simp
    · omega
  · omega
theorem Kn.no {M : List (List UInt8)} {all : List Cel} (k : Kn M 0 all) (x : List UInt8) (h : (10 : UInt8) ∉ x) (hl : x.length ≤ 4000) (he : outE x ≠ 0) (a : List Cel) : Kn (M ++ [x]) (M.length + 1) a := by
  rcases k with ⟨-, h1, h2⟩ | ⟨h1, -⟩
  · rcases one_line x h hl with ⟨g, -⟩ | ⟨-, g1, g2⟩
    · omega
    · refine .inr ⟨by omega, by simp, fun R => ?_⟩
      rw [List.append_assoc, List.singleton_append, h2, g2]
      rfl
  · omega
theorem Kn.bad {M : List (List UInt8)} {bad : Nat} {all : List Cel} (k : Kn M bad all) (hb : 0 < bad) (x : List UInt8) (a : List Cel) : Kn (M ++ [x]) bad a := by
  rcases k with ⟨h1, -⟩ | ⟨-, h1, h2⟩
  · omega
  · refine .inr ⟨hb, by simp; omega, fun R => ?_⟩
    rw [List.append_assoc, h2]
theorem out_of {s : List UInt8} {l : List Cel} (hl : s.length ≤ 4000) (h : scan 0 (spl 10 s) = .ok l) : outL s = l ∧ outN s = 0 ∧ outE s = 0 := by
  unfold outL outN outE
  rw [if_neg (by omega), if_neg (by omega), if_neg (by omega), h]
  exact ⟨rfl, rfl, rfl⟩
theorem out_er {s : List UInt8} {k : Nat} (hl : s.length ≤ 4000) (h : scan 0 (spl 10 s) = .error k) : outL s = [] ∧ outN s = k ∧ outE s = 70 := by
  unfold outL outN outE
  rw [if_neg (by omega), if_neg (by omega), if_neg (by omega), h]
  exact ⟨rfl, rfl, rfl⟩
theorem Kn.out0 {M : List (List UInt8)} {all : List Cel} (k : Kn M 0 all) (h : ∀ x ∈ M, (10 : UInt8) ∉ x) (hl : (joinL M).length ≤ 4000) : outL (joinL M) = all ∧ outN (joinL M) = 0 ∧ outE (joinL M) = 0 := by
  rcases k with ⟨-, h1, h2⟩ | ⟨h1, -⟩
  · refine out_of hl ?_
    have := spl_join M [] h (by simp)
    rw [List.append_nil] at this
    rw [this, h2, scan_nothing _ _ _ rfl]
    simp [scan, pre, Except.map]
  · omega
theorem Kn.out1 {M : List (List UInt8)} {bad : Nat} {all : List Cel} (k : Kn M bad all) (hb : 0 < bad) (h : ∀ x ∈ M, (10 : UInt8) ∉ x) (hl : (joinL M).length ≤ 4000) : outL (joinL M) = [] ∧ outN (joinL M) = bad ∧ outE (joinL M) = 70 := by
  rcases k with ⟨h1, -⟩ | ⟨-, h1, h2⟩
  · omega
  · refine out_er hl ?_
    have := spl_join M [] h (by simp)
    rw [List.append_nil] at this
    rw [this, h2]
end Go.Proofs.YtacniohflhpgaaaDoor
