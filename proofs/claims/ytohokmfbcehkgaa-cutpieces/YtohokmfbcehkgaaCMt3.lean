/-
  What follows of Roll and All, as plain mathematics: whole rows, cut again, cut wider, all pieces together. No program here.
-/
import Derived.Test.YtohokmfbcehkgaaCPcs
namespace Go.Proofs.Ytohokmfbcehkgaa
open Go.RowKit

/-- How many cells the last list has. -/
def lastLen (LL : List (List Cel)) : Nat := (LL[LL.length - 1]?.getD []).length
theorem fits_iff (most : Int) (LL : List (List Cel)) (g : List Cel) : fits most LL g = true ↔ 0 < LL.length ∧ (lastLen LL : Int) + (g.length : Int) ≤ most := by
  unfold fits lastLen
  simp
theorem step_fits {most : Int} {LL : List (List Cel)} {g : List Cel} (h : fits most LL g = true) : (rollStep most LL g).length = LL.length ∧ lastLen (rollStep most LL g) = lastLen LL + g.length := by
  have h0 := ((fits_iff most LL g).1 h).1
  unfold rollStep lastLen
  rw [if_pos h]
  refine ⟨by simp, ?_⟩
  rw [List.length_set, List.getElem?_set_self (by omega)]
  simp
theorem step_not {most : Int} {LL : List (List Cel)} {g : List Cel} (h : ¬ fits most LL g = true) : (rollStep most LL g).length = LL.length + 1 ∧ lastLen (rollStep most LL g) = g.length := by
  unfold rollStep lastLen
  rw [if_neg h]
  simp
/-- A wider cut has no more lists. -/
theorem roll_wide {m m2 : Int} (hm : m ≤ m2) (gs : List (List Cel)) : (rollG m2 gs).length < (rollG m gs).length ∨ ((rollG m2 gs).length = (rollG m gs).length ∧ lastLen (rollG m2 gs) ≤ lastLen (rollG m gs)) := by
  refine snoc_ind (P := fun gs => (rollG m2 gs).length < (rollG m gs).length ∨ ((rollG m2 gs).length = (rollG m gs).length ∧ lastLen (rollG m2 gs) ≤ lastLen (rollG m gs))) (.inr ⟨rfl, Nat.le_refl _⟩) (fun gs g ih => ?_) gs
  rw [rollG_snoc, rollG_snoc]
  generalize rollG m gs = X at *
  generalize rollG m2 gs = Y at *
  have f1 := fits_iff m X g
  have f2 := fits_iff m2 Y g
  by_cases h1 : fits m X g = true
  · have s1 := step_fits h1
    have g1 := f1.1 h1
    by_cases h2 : fits m2 Y g = true
    · have s2 := step_fits h2
      omega
    · have s2 := step_not h2
      rcases ih with ih | ih
      · omega
      · exact absurd (f2.2 ⟨by omega, by omega⟩) h2
  · have s1 := step_not h1
    by_cases h2 : fits m2 Y g = true
    · have s2 := step_fits h2
      omega
    · have s2 := step_not h2
      omega
theorem roll_wide_len {m m2 : Int} (hm : m ≤ m2) (l : List Cel) : (rollL m2 l).length ≤ (rollL m l).length := by
  unfold rollL
  have := roll_wide hm ((grps 0 l).map (·.cs))
  omega
/-- Roll puts whole rows together. -/
theorem roll_parts (m : Int) (gs : List (List Cel)) : ∃ hss : List (List (List Cel)), hss.flatten = gs ∧ rollG m gs = hss.map List.flatten ∧ ∀ hs ∈ hss, hs ≠ [] ∧ (hs.length = 1 ∨ (hs.flatten.length : Int) ≤ m) := by
  refine snoc_ind (P := fun gs => ∃ hss : List (List (List Cel)), hss.flatten = gs ∧ rollG m gs = hss.map List.flatten ∧ ∀ hs ∈ hss, hs ≠ [] ∧ (hs.length = 1 ∨ (hs.flatten.length : Int) ≤ m)) ⟨[], rfl, rfl, by simp⟩ (fun gs g ih => ?_) gs
  obtain ⟨hss, h1, h2, h3⟩ := ih
  rw [rollG_snoc, h2]
  by_cases hf : fits m (hss.map List.flatten) g = true
  · obtain ⟨h0, hl⟩ := (fits_iff _ _ _).1 hf
    obtain ⟨I, x, rfl⟩ : ∃ I x, hss = I ++ [x] := ⟨hss.dropLast, hss.getLast (by intro h; rw [h] at h0; simp at h0), (List.dropLast_concat_getLast _).symm⟩
    have hx := h3 x (by simp)
    have hlast : lastLen ((I ++ [x]).map List.flatten) = x.flatten.length := by
      unfold lastLen
      simp
    rw [hlast] at hl
    refine ⟨I ++ [x ++ [g]], by rw [← h1]; simp, ?_, fun hs hh => ?_⟩
    · unfold rollStep
      rw [if_pos hf]
      simp
    · rcases List.mem_append.1 hh with hh | hh
      · exact h3 hs (by simp [hh])
      · rw [List.mem_singleton.1 hh]
        refine ⟨by simp, .inr ?_⟩
        rw [List.flatten_append, List.length_append]
        simp at hl ⊢
        omega
  · refine ⟨hss ++ [[g]], by rw [← h1]; simp, ?_, fun hs hh => ?_⟩
    · unfold rollStep
      rw [if_neg hf]
      simp
    · rcases List.mem_append.1 hh with hh | hh
      · exact h3 hs hh
      · rw [List.mem_singleton.1 hh]
        exact ⟨by simp, .inl rfl⟩
/-- Whole rows, no two of one name. -/
structure Whole (gs : List (List Cel)) : Prop where
  ne : ∀ g ∈ gs, g ≠ []
  row : ∀ g ∈ gs, ∀ a ∈ g, ∀ b ∈ g, a.row = b.row
  apart : gs.Pairwise fun g h => ∀ a ∈ g, ∀ b ∈ h, a.row ≠ b.row
theorem mem_drop_row {c : Cel} {t : List Cel} (h : RowsUp (c :: t)) : ∀ d ∈ t.dropWhile (sameR c.row), d.row ≠ c.row := by
  intro d hd he
  rw [tw_drop] at hd
  obtain ⟨i, hi, rfl⟩ := List.getElem_of_mem hd
  rw [List.getElem_drop] at he
  have hlen : (t.takeWhile (sameR c.row)).length + i < t.length := by simp at hi; omega
  have h0 : (t.takeWhile (sameR c.row)).length < t.length := by omega
  have hx := List.getElem?_eq_getElem h0
  have hp := tw_at _ t _ hx
  have hy := List.getElem?_eq_getElem hlen
  have g1 := h ((t.takeWhile (sameR c.row)).length + 1) ((t.takeWhile (sameR c.row)).length + i + 1) _ _ (by omega) (by rw [List.getElem?_cons_succ]; exact hx) (by rw [List.getElem?_cons_succ]; exact hy)
  have g2 := h 0 ((t.takeWhile (sameR c.row)).length + 1) c _ (by omega) rfl (by rw [List.getElem?_cons_succ]; exact hx)
  rw [he] at g1
  have := leT_eq g1 g2
  simp [sameR, this] at hp
theorem grps_whole (s : Nat) (l : List Cel) : RowsUp l → Whole ((grps s l).map (·.cs)) ∧ ∀ x ∈ grps s l, ∀ a ∈ x.cs, a ∈ l := by
  induction s, l using grps.induct with
  | case1 s => intro _; rw [grps_nil]; exact ⟨⟨by simp, by simp, by simp⟩, by simp⟩
  | case2 s c t ih =>
    intro h
    have hd : t.dropWhile (sameR c.row) = (c :: t).drop ((t.takeWhile (sameR c.row)).length + 1) := by rw [List.drop_succ_cons, tw_drop]
    obtain ⟨ih1, ih2⟩ := ih (by rw [hd]; exact h.drop _)
    have hmem : ∀ a ∈ t.dropWhile (sameR c.row), a ∈ t := fun a ha => by rw [tw_drop] at ha; exact List.mem_of_mem_drop ha
    have hrow : ∀ a ∈ c :: t.takeWhile (sameR c.row), a.row = c.row := fun a ha => by
      rcases List.mem_cons.1 ha with rfl | ha
      · rfl
      · simpa [sameR] using tw_all _ _ a ha
    rw [grps_cons]
    refine ⟨⟨fun g hg => ?_, fun g hg a ha b hb => ?_, ?_⟩, fun x hx a ha => ?_⟩
    · rw [List.map_cons] at hg
      rcases List.mem_cons.1 hg with rfl | hg
      · simp
      · exact ih1.ne g hg
    · rw [List.map_cons] at hg
      rcases List.mem_cons.1 hg with rfl | hg
      · rw [hrow a ha, hrow b hb]
      · exact ih1.row g hg a ha b hb
    · rw [List.map_cons, List.pairwise_cons]
      refine ⟨fun g hg a ha b hb he => ?_, ih1.apart⟩
      obtain ⟨x, hx, rfl⟩ := List.mem_map.1 hg
      exact mem_drop_row h b (ih2 x hx b hb) (by rw [← he]; exact hrow a ha)
    · rcases List.mem_cons.1 hx with rfl | hx
      · rcases List.mem_cons.1 ha with rfl | ha
        · simp
        · refine List.mem_cons_of_mem _ ?_
          rw [tw_take] at ha
          exact List.mem_of_mem_take ha
      · exact List.mem_cons_of_mem _ (hmem a (ih2 x hx a ha))
theorem Whole.sub {gs hs : List (List Cel)} (h : Whole gs) (k : hs.Sublist gs) : Whole hs :=
  ⟨fun g hg => h.ne g (k.subset hg), fun g hg => h.row g (k.subset hg), h.apart.sublist k⟩
/-- Whole rows are told as such. -/
theorem grps_of : ∀ (gs : List (List Cel)) (s : Nat), Whole gs → (grps s gs.flatten).map (·.cs) = gs
  | [], s, _ => by rw [List.flatten_nil, grps_nil]; rfl
  | g :: gs, s, h => by
    obtain ⟨c, t, rfl⟩ : ∃ c t, g = c :: t := by
      cases g with
      | nil => exact absurd rfl (h.ne [] (by simp))
      | cons c t => exact ⟨c, t, rfl⟩
    have hap := (List.pairwise_cons.1 h.apart).1
    have htw : (t ++ gs.flatten).takeWhile (sameR c.row) = t ∧ (t ++ gs.flatten).dropWhile (sameR c.row) = gs.flatten := by
      have h1 : ∀ a ∈ t, sameR c.row a = true := fun a ha => by
        have := h.row (c :: t) (by simp) a (by simp [ha]) c (by simp)
        simp [sameR, this]
      have h2 : gs.flatten.takeWhile (sameR c.row) = [] := by
        cases hgf : gs.flatten with
        | nil => rfl
        | cons d r =>
          rw [List.takeWhile_cons]
          have hd : d ∈ gs.flatten := by rw [hgf]; simp
          obtain ⟨g2, hg2, hdg⟩ := List.mem_flatten.1 hd
          have := hap g2 hg2 c (by simp) d hdg
          have : sameR c.row d = false := by simp [sameR]; exact fun e => this e.symm
          rw [this]
          rfl
      have h3 : gs.flatten.dropWhile (sameR c.row) = gs.flatten := by rw [tw_drop, h2]; rfl
      constructor
      · rw [List.takeWhile_append_of_pos h1, h2, List.append_nil]
      · rw [List.dropWhile_append_of_pos h1, h3]
    rw [List.flatten_cons, List.cons_append, grps_cons, List.map_cons, htw.1, htw.2, grps_of gs _ (h.sub (List.sublist_cons_self _ _))]
theorem flat_sub : ∀ {hs gs : List (List Cel)}, hs.Sublist gs → hs.flatten.Sublist gs.flatten
  | _, _, .slnil => List.Sublist.slnil
  | _, _, .cons g h => by rw [List.flatten_cons]; exact (flat_sub h).trans (List.sublist_append_right _ _)
  | _, _, .cons_cons g h => by rw [List.flatten_cons, List.flatten_cons]; exact (flat_sub h).append_left _
theorem flatten_sub {α : Type} {hs : List α} : ∀ {hss : List (List α)}, hs ∈ hss → hs.Sublist hss.flatten
  | [], h => by cases h
  | x :: t, h => by
    rw [List.flatten_cons]
    rcases List.mem_cons.1 h with rfl | h
    · exact List.sublist_append_left _ _
    · exact (flatten_sub h).trans (List.sublist_append_right _ _)
/-- What is so of one list that Roll has made. -/
structure Rolled (m : Int) (l L : List Cel) : Prop where
  ne : L ≠ []
  rises : rising L = true
  again : rollL m L = [L]
  sub : L.Sublist l
  one : m < (L.length : Int) → ∀ a ∈ L, ∀ b ∈ L, a.row = b.row
theorem rolled_all {m : Int} (hs : List (List Cel)) (h0 : hs ≠ []) (h : hs.length = 1 ∨ (hs.flatten.length : Int) ≤ m) : rollG m hs = [hs.flatten] := by
  rcases h with h | h
  · obtain ⟨g, rfl⟩ : ∃ g, hs = [g] := List.length_eq_one_iff.1 h
    simp [rollG, rollStep, fits]
  · revert h0 h
    refine snoc_ind (P := fun hs => hs ≠ [] → (hs.flatten.length : Int) ≤ m → rollG m hs = [hs.flatten]) (fun h => absurd rfl h) (fun hs g ih _ h => ?_) hs
    rw [rollG_snoc]
    rw [List.flatten_append, List.length_append] at h
    by_cases hn : hs = []
    · subst hn
      simp [rollG, rollStep, fits]
    · rw [ih hn (by omega)]
      have hf : fits m [hs.flatten] g = true := by
        rw [fits_iff]
        unfold lastLen
        simp at h ⊢
        omega
      unfold rollStep
      rw [if_pos hf]
      simp
theorem roll_rolled {m : Int} {l : List Cel} (hr : rising l = true) : ∀ L ∈ rollL m l, Rolled m l L := by
  intro L hL
  have hW := (grps_whole 0 l (rising_rows l hr)).1
  unfold rollL at hL
  have hfl : ((grps 0 l).map (·.cs)).flatten = l := by rw [← List.flatMap_def, grps_flat]
  generalize (grps 0 l).map (·.cs) = gs at *
  obtain ⟨hss, h1, h2, h3⟩ := roll_parts m gs
  rw [h2] at hL
  obtain ⟨hs, hh, rfl⟩ := List.mem_map.1 hL
  obtain ⟨hn, h4⟩ := h3 hs hh
  have hsub : hs.Sublist gs := by rw [← h1]; exact flatten_sub hh
  have hWs := hW.sub hsub
  have hsl : hs.flatten.Sublist l := by rw [← hfl]; exact flat_sub hsub
  refine ⟨?_, pair_rising _ ((rising_pair l hr).sublist hsl), ?_, hsl, fun hm => ?_⟩
  · obtain ⟨g, t, rfl⟩ : ∃ g t, hs = g :: t := by
      cases hs with
      | nil => exact absurd rfl hn
      | cons g t => exact ⟨g, t, rfl⟩
    have := hWs.ne g (by simp)
    simp [this]
  · unfold rollL
    rw [grps_of hs 0 hWs]
    exact rolled_all hs hn h4
  · rcases h4 with h4 | h4
    · obtain ⟨g, rfl⟩ : ∃ g, hs = [g] := List.length_eq_one_iff.1 h4
      intro a ha b hb
      simp at ha hb
      exact hWs.row g (by simp) a ha b hb
    · omega
theorem roll_apart {m : Int} {l : List Cel} (hr : rising l = true) : (rollL m l).Pairwise fun L M => ∀ a ∈ L, ∀ b ∈ M, a.row ≠ b.row := by
  have hW := (grps_whole 0 l (rising_rows l hr)).1
  unfold rollL
  generalize (grps 0 l).map (·.cs) = gs at *
  obtain ⟨hss, h1, h2, -⟩ := roll_parts m gs
  rw [h2, List.pairwise_map]
  have hp := hW.apart
  rw [← h1, List.pairwise_flatten] at hp
  refine hp.2.imp fun {x y} hxy a ha b hb => ?_
  obtain ⟨g, hg, hag⟩ := List.mem_flatten.1 ha
  obtain ⟨k, hk, hbk⟩ := List.mem_flatten.1 hb
  exact hxy g hg k hk a hag b hbk
end Go.Proofs.Ytohokmfbcehkgaa
