/-
  The rows of cells that rise, each once; the cells of each row, one row behind the other, are all cells. No program in it. No conditions but those written.
-/
import Derived.Test.YtlmlopdakbbbjaaGreatDoorTRow
namespace Go.Proofs.YtlmlopdakbbbjaaGreatDoor
open Go.RowKit

theorem snoc_ind {α : Type} {P : List α → Prop} (h0 : P []) (h1 : ∀ l a, P l → P (l ++ [a])) (l : List α) : P l := by
  have h : ∀ r : List α, P r.reverse := by
    intro r
    induction r with
    | nil => exact h0
    | cons a r ih => rw [List.reverse_cons]; exact h1 _ _ ih
  have := h l.reverse
  rwa [List.reverse_reverse] at this
theorem compactUpTo_less {xs : List (List UInt8)} {y : List UInt8} (n : Nat) (h : n ≤ xs.length) : Lib.compactUpTo (xs ++ [y]).toArray n = Lib.compactUpTo xs.toArray n := by
  have hj : ∀ j, j < n → (xs ++ [y]).toArray[j]! = xs.toArray[j]! := by
    intro j hj
    rw [getElem!_pos _ j (by simp; omega), getElem!_pos _ j (by simp; omega)]
    simp [List.getElem_append_left (show j < xs.length by omega)]
  induction n with
  | zero => rfl
  | succ n ih =>
    rw [Lib.compactUpTo_succ, Lib.compactUpTo_succ, ih (by omega) (fun j hj' => hj j (by omega)), hj n (by omega)]
    have : Lib.keeps (xs ++ [y]).toArray n = Lib.keeps xs.toArray n := by
      unfold Lib.keeps
      rw [hj n (by omega), hj (n - 1) (by omega)]
    rw [this]
/-- The rows of one cell more. -/
theorem rowsOf_snoc (l : List Cel) (c : Cel) : rowsOf (l ++ [c]) = rowsOf l ++ (if l = [] ∨ lastR l ≠ c.row then [c.row] else []) := by
  unfold rowsOf Lib.compact
  rw [List.map_append, List.map_cons, List.map_nil, List.length_append, List.length_map, List.length_cons, List.length_nil, Lib.compactUpTo_succ, compactUpTo_less _ (by simp)]
  congr 1
  have h1 : (l.map (·.row) ++ [c.row]).toArray[l.length]! = c.row := by
    rw [getElem!_pos _ _ (by simp)]
    simp
  rw [h1]
  have h2 : Lib.keeps (l.map (·.row) ++ [c.row]).toArray l.length = decide (l = [] ∨ lastR l ≠ c.row) := by
    unfold Lib.keeps
    rw [h1]
    apply decide_eq_decide.2
    cases hl : l with
    | nil => simp
    | cons a t =>
      rw [← hl]
      have hpos : 0 < l.length := by rw [hl]; simp
      have h3 : (l.map (·.row) ++ [c.row]).toArray[l.length - 1]! = lastR l := by
        rw [getElem!_pos _ _ (by simp; omega)]
        unfold lastR
        rw [List.getElem?_eq_getElem (show l.length - 1 < l.length by omega)]
        simp [List.getElem_append_left (show l.length - 1 < (l.map (·.row)).length by simp; omega)]
      rw [h3]
      constructor
      · rintro (h | h)
        · omega
        · exact .inr (fun e => h e.symm)
      · rintro (h | h)
        · rw [h] at hpos; simp at hpos
        · exact .inr (fun e => h e.symm)
  rw [h2]
  by_cases h : l = [] ∨ lastR l ≠ c.row <;> simp [h]

theorem leT_refl (a : List UInt8) : leT a a = true := by unfold leT; simp
theorem leT_of {a b : Cel} (h : cmpC a b = -1) : leT a.row b.row = true := by
  unfold leT
  have hv : cmpT a.row b.row = -1 ∨ cmpT a.row b.row = 0 := by
    unfold cmpC or4 at h
    by_cases h0 : cmpT a.row b.row = 0
    · exact .inr h0
    · rw [if_pos h0] at h; exact .inl h
  unfold cmpT at hv
  by_cases h1 : Op.bytesLess a.row b.row = true
  · rw [h1]; rfl
  · rw [if_neg h1] at hv
    by_cases h2 : a.row = b.row
    · simp [h2]
    · rw [if_neg h2] at hv
      rcases hv with h | h <;> cases h
/-- Rows that stand as they should. -/
def Srt (l : List Cel) : Prop := l.Pairwise fun a b => leT a.row b.row = true
theorem leT_antisymm {a b : List UInt8} (h1 : leT a b = true) (h2 : leT b a = true) : a = b := by
  unfold leT at h1 h2
  rw [Bool.or_eq_true] at h1 h2
  rcases h1 with h1 | h1
  · rcases h2 with h2 | h2
    · exfalso
      have e1 := (less_cmp a b).1 h1
      have e2 := (less_cmp b a).1 h2
      have := cmpT_neg a b
      omega
    · exact (by simpa using h2 : b = a).symm
  · simpa using h1
theorem rising_pair (l : List Cel) : rising l = true → l.Pairwise (fun a b => cmpC a b = -1) := by
  induction l with
  | nil => intro _; exact List.Pairwise.nil
  | cons a t ih =>
    cases t with
    | nil => intro _; simp
    | cons b t =>
      intro h
      rw [rising, Bool.and_eq_true] at h
      have h1 : cmpC a b = -1 := by
        have h2 := of_decide_eq_true h.1
        have := cmpC_vals a b
        omega
      have h2 := ih h.2
      refine List.pairwise_cons.2 ⟨?_, h2⟩
      intro d hd
      rcases List.mem_cons.1 hd with rfl | hd
      · exact h1
      · exact cmpC_lt_trans a b d h1 ((List.pairwise_cons.1 h2).1 d hd)
theorem srt_of {l : List Cel} (h : rising l = true) : Srt l := (rising_pair l h).imp leT_of
theorem lastR_snoc (l : List Cel) (c : Cel) : lastR (l ++ [c]) = c.row := by
  unfold lastR
  simp
theorem rows_sub (l : List Cel) : ∀ r ∈ rowsOf l, ∃ c ∈ l, c.row = r := by
  induction l using snoc_ind with
  | h0 => intro r hr; simp [rowsOf, Lib.compact, Lib.compactUpTo] at hr
  | h1 l c ih =>
    intro r hr
    rw [rowsOf_snoc] at hr
    rcases List.mem_append.1 hr with hr | hr
    · obtain ⟨d, hd, e⟩ := ih r hr
      exact ⟨d, by simp [hd], e⟩
    · split at hr
      · exact ⟨c, by simp, (List.mem_singleton.1 hr).symm⟩
      · simp at hr
theorem rows_all (l : List Cel) (c : Cel) (hc : c ∈ l) : c.row ∈ rowsOf l := by
  induction l using snoc_ind generalizing c with
  | h0 => simp at hc
  | h1 l d ih =>
    rw [rowsOf_snoc]
    rcases List.mem_append.1 hc with hc | hc
    · exact List.mem_append.2 (.inl (ih c hc))
    · rw [List.mem_singleton.1 hc]
      by_cases h : l = [] ∨ lastR l ≠ d.row
      · rw [if_pos h]; simp
      · rw [if_neg h, List.append_nil]
        have hne : l ≠ [] := fun e => h (.inl e)
        have hlr : lastR l = d.row := Classical.byContradiction fun e => h (.inr e)
        obtain ⟨l', x, rfl⟩ : ∃ l' x, l = l' ++ [x] := ⟨l.dropLast, l.getLast hne, (List.dropLast_concat_getLast hne).symm⟩
        rw [lastR_snoc] at hlr
        rw [← hlr]
        exact ih x (by simp)
/-- In rows that stand as they should the last one is new, or the one ahead of it. -/
theorem rows_last (l : List Cel) (c : Cel) (hs : Srt (l ++ [c])) : ∃ R, rowsOf (l ++ [c]) = R ++ [c.row] ∧ c.row ∉ R := by
  induction l using snoc_ind generalizing c with
  | h0 => exact ⟨[], by rw [rowsOf_snoc]; simp [rowsOf, Lib.compact, Lib.compactUpTo], by simp⟩
  | h1 l d ih =>
    rw [rowsOf_snoc]
    by_cases h : d.row = c.row
    · rw [if_neg (by rw [lastR_snoc]; simp [h]), List.append_nil]
      have := ih d (List.pairwise_append.1 hs).1
      rwa [h] at this
    · rw [if_pos (.inr (by rw [lastR_snoc]; exact h))]
      refine ⟨_, rfl, fun hm => ?_⟩
      obtain ⟨e, he, hr⟩ := rows_sub _ _ hm
      obtain ⟨h1, -, h3⟩ := List.pairwise_append.1 hs
      have a1 := h3 d (by simp) c (by simp)
      have a2 : leT e.row d.row = true := by
        rcases List.mem_append.1 he with he | he
        · exact (List.pairwise_append.1 h1).2.2 e he d (by simp)
        · rw [List.mem_singleton.1 he]; exact leT_refl _
      rw [hr] at a2
      exact h (leT_antisymm a1 a2)
theorem flatMap_congr' {α β : Type} {l : List α} {f g : α → List β} (h : ∀ x ∈ l, f x = g x) : l.flatMap f = l.flatMap g := by
  induction l with
  | nil => rfl
  | cons a t ih => rw [List.flatMap_cons, List.flatMap_cons, h a (by simp), ih (fun x hx => h x (by simp [hx]))]
/-- All rows, one by one, have all cells. -/
theorem rows_group (l : List Cel) (hs : Srt l) : (rowsOf l).flatMap (fun r => l.filter fun c => c.row == r) = l := by
  induction l using snoc_ind with
  | h0 => rfl
  | h1 l c ih =>
    have hs1 := (List.pairwise_append.1 hs).1
    have h3 := (List.pairwise_append.1 hs).2.2
    have ih := ih hs1
    have hf : ∀ r, (l ++ [c]).filter (fun d => d.row == r) = l.filter (fun d => d.row == r) ++ (if (c.row == r) = true then [c] else []) := by
      intro r
      rw [List.filter_append]
      cases hx : (c.row == r) <;> simp [hx]
    obtain ⟨R, hR, hn⟩ := rows_last l c hs
    rw [hR, List.flatMap_append]
    have hR2 : R.flatMap (fun r => (l ++ [c]).filter fun d => d.row == r) = R.flatMap (fun r => l.filter fun d => d.row == r) := by
      apply flatMap_congr'
      intro r hr
      rw [hf r, if_neg (by intro e; exact hn (by rw [show c.row = r by simpa using e]; exact hr)), List.append_nil]
    rw [hR2]
    simp only [List.flatMap_cons, List.flatMap_nil, List.append_nil]
    rw [hf c.row, if_pos (by simp), ← List.append_assoc]
    congr 1
    rw [rowsOf_snoc] at hR
    by_cases h : l = [] ∨ lastR l ≠ c.row
    · rw [if_pos h] at hR
      have e1 : R = rowsOf l := (List.append_inj' hR rfl).1.symm
      have e2 : l.filter (fun d => d.row == c.row) = [] := by
        rw [List.filter_eq_nil_iff]
        intro d hd he
        have he : d.row = c.row := by simpa using he
        exact hn (by rw [e1, ← he]; exact rows_all l d hd)
      rw [e1, e2, List.append_nil, ih]
    · rw [if_neg h, List.append_nil] at hR
      rw [hR, List.flatMap_append] at ih
      simpa using ih
/-- What is looked at for a row has all its cells. -/
theorem first_le {p : List Cel} (hs : Srt p) (c : Cel) (hc : c ∈ p) : leT (firstR p) c.row = true := by
  cases p with
  | nil => simp at hc
  | cons a t =>
    show leT a.row c.row = true
    rcases List.mem_cons.1 hc with rfl | hc
    · exact leT_refl _
    · exact (List.pairwise_cons.1 hs).1 c hc
theorem last_ge {p : List Cel} (hs : Srt p) (c : Cel) (hc : c ∈ p) : leT c.row (lastR p) = true := by
  have hne : p ≠ [] := by rintro rfl; simp at hc
  obtain ⟨l', x, rfl⟩ : ∃ l' x, p = l' ++ [x] := ⟨p.dropLast, p.getLast hne, (List.dropLast_concat_getLast hne).symm⟩
  rw [lastR_snoc]
  rcases List.mem_append.1 hc with hc | hc
  · exact (List.pairwise_append.1 hs).2.2 c hc x (by simp)
  · rw [List.mem_singleton.1 hc]; exact leT_refl _
theorem sel_parts (ps : List (List Cel)) (r : List UInt8) (h : ∀ p ∈ ps, Srt p) : (ps.filter (inP r)).flatten.filter (fun c => c.row == r) = ps.flatten.filter (fun c => c.row == r) := by
  induction ps with
  | nil => rfl
  | cons p ps ih =>
    have ih := ih (fun q hq => h q (by simp [hq]))
    rw [List.filter_cons]
    by_cases hp : inP r p = true
    · rw [if_pos hp, List.flatten_cons, List.flatten_cons, List.filter_append, List.filter_append, ih]
    · rw [if_neg hp, List.flatten_cons, List.filter_append, ih]
      have : p.filter (fun c => c.row == r) = [] := by
        rw [List.filter_eq_nil_iff]
        intro c hc he
        have he : c.row = r := by simpa using he
        apply hp
        unfold inP
        rw [← he, first_le (h p (by simp)) c hc, last_ge (h p (by simp)) c hc]
        rfl
      rw [this, List.nil_append]
theorem overC_zero (c : Cel) : overC 0 c = c := if_pos rfl
theorem row_sel (l : List Cel) (r : List UInt8) (hs : rising l = true) (hr : r ∈ rowsOf l) : rowC l 0 r = (l.filter fun c => c.row == r) ∧ 0 < (lookP l r).length := by
  have hS := srt_of hs
  have hp : ∀ p ∈ parts l, Srt p := by
    have h2 := hS
    unfold Srt at h2
    rw [← parts_flat l] at h2
    exact fun p hp => (List.pairwise_flatten.1 h2).1 p hp
  have hm : mayL (filt l) r = true := may_has _ _ _ hr
  have hl : lookP l r = (parts l).filter (inP r) := by unfold lookP; rw [if_pos hm]
  constructor
  · unfold rowC selC
    rw [hl, sel_parts _ _ hp, parts_flat]
    have : (fun c => overC 0 c) = id := by funext c; exact overC_zero c
    rw [show overC 0 = id from this, List.map_id]
  · obtain ⟨c, hc, he⟩ := rows_sub l r hr
    have : c ∈ (parts l).flatten := by rw [parts_flat]; exact hc
    obtain ⟨p, hp1, hcp⟩ := List.mem_flatten.1 this
    rw [hl]
    apply List.length_pos_of_mem (a := p)
    rw [List.mem_filter]
    refine ⟨hp1, ?_⟩
    unfold inP
    rw [← he, first_le (hp p hp1) c hcp, last_ge (hp p hp1) c hcp]
    rfl
end Go.Proofs.YtlmlopdakbbbjaaGreatDoor
