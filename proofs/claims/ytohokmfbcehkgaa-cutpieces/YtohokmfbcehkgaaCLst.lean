/-
  Lists of lists of cells, all the call's own: made, one list grown, one list more. Conditions: lengths as written.
-/
import Derived.Test.YtohokmfbcehkgaaCRows
namespace Go.Proofs.Ytohokmfbcehkgaa
open Go.RowKit Go.Shelf

theorem OwnC.blk {w : World} {base : Nat} {v : Value} {l : List Cel} (h : OwnC w base v l) {j : Nat} (hj : v.ownBlock = some j) : base ≤ j ∧ ∃ cs, w.heap[j]? = some (.cells cs 50 (0, 0)) := by
  rcases h.2 with ⟨rfl, -⟩ | ⟨g, cap, cur, rfl, hb, hg, -⟩
  · cases hj
  · have : g = j := by simpa [Value.ownBlock] using hj
    subst this
    exact ⟨hb, cur, hg⟩
theorem OwnC.keep {w w' : World} {base : Nat} {v : Value} {l : List Cel} (h : OwnC w base v l) (k : ∀ j o, v.ownBlock = some j → w.heap[j]? = some o → w'.heap[j]? = some o) : OwnC w' base v l := by
  refine ⟨h.1, ?_⟩
  rcases h.2 with h1 | ⟨g, cap, cur, rfl, hb, hg, rest⟩
  · exact .inl h1
  · exact .inr ⟨g, cap, cur, rfl, hb, k g _ rfl hg, rest⟩

theorem Bk.far_any (w : World) {j g i : Nat} {ob : Obj} (h : w.heap[j]? = some ob) (hg : g ≠ j) (u : Value) : (w.setCell ⟨g, i, none⟩ u).heap[j]? = some ob :=
  (Below.heap_setCell w ⟨g, i, none⟩ u j (fun e => hg e.symm)).trans h

theorem OwnC.not {w : World} {base : Nat} {v : Value} {l : List Cel} (h : OwnC w base v l) {j : Nat} {t : TypeId} {cs : Array Value} (hk : Bk w j t cs) (ht : t ≠ 50) : some j ≠ v.ownBlock := fun hq => by
  obtain ⟨-, cs', hc⟩ := h.blk hq.symm
  rw [show w.heap[j]? = _ from hk] at hc
  cases hc
  exact ht rfl
/-- A list of lists of cells, each of the call's own, no two in one block. -/
structure OwnLL (w : World) (base : Nat) (v : Value) (us : List Value) (LL : List (List Cel)) : Prop where
  outer : w.ownsRow base 22 1 v us.length us
  len : us.length = LL.length
  inner : ∀ (i : Nat) (u : Value) (l : List Cel), us[i]? = some u → LL[i]? = some l → OwnC w base u l
  apart : ∀ (i j : Nat) (u u' : Value) (b : Nat), us[i]? = some u → us[j]? = some u' → u.ownBlock = some b → u'.ownBlock = some b → i = j
theorem OwnLL.old {w w' : World} {base : Nat} {v : Value} {us : List Value} {LL : List (List Cel)} (h : OwnLL w base v us LL) (o : Old w w') : OwnLL w' base v us LL :=
  ⟨row_old h.outer o, h.len, fun i u l hu hl => (h.inner i u l hu hl).old o, h.apart⟩
theorem OwnLL.nil (w : World) (base : Nat) : OwnLL w base (.slice none 0 0) [] [] :=
  ⟨World.ownsRow_nil _ _ _ _, rfl, fun i u l hu _ => by simp at hu, fun i j u u' b hu => by simp at hu⟩
theorem OwnLL.empty {w : World} {base g : Nat} (h : Bk w g 22 #[]) (hb : base ≤ g) : OwnLL w base (.slice (some ⟨g, 0, none⟩) 0 0) [] [] :=
  ⟨⟨rfl, .inr ⟨g, 0, #[], rfl, hb, h, Nat.le_refl _, by simp, rfl, rfl⟩⟩, rfl, fun i u l hu _ => by simp at hu, fun i j u u' b hu => by simp at hu⟩
theorem OwnLL.form {w : World} {base : Nat} {v : Value} {us : List Value} {LL : List (List Cel)} (h : OwnLL w base v us LL) : ∃ A cap, v = .slice A LL.length cap ∧ LL.length ≤ cap := by
  rw [← h.len]
  rcases h.outer.2 with ⟨rfl, h0⟩ | ⟨g, cap, cur, rfl, hb, hg, hnc, -⟩
  · rw [h0]; exact ⟨none, 0, rfl, Nat.le_refl _⟩
  · exact ⟨_, cap, rfl, hnc⟩
theorem OwnLL.at_ {w : World} {base : Nat} {A : Option Addr} {n cap : Nat} {us : List Value} {LL : List (List Cel)} (h : OwnLL w base (.slice A n cap) us LL) {i : Nat} {l : List Cel} (hl : LL[i]? = some l) :
    ∃ g u cur, A = some ⟨g, 0, none⟩ ∧ base ≤ g ∧ us[i]? = some u ∧ OwnC w base u l ∧ Bk w g 22 cur ∧ w.cell? ⟨g, i, none⟩ = some u := by
  have hi := (List.getElem?_eq_some_iff.1 hl).1
  have hu := List.getElem?_eq_getElem (show i < us.length by have := h.len; omega)
  rcases h.outer.2 with ⟨-, h0⟩ | ⟨g, cap', cur, e, hb, hg, hnc, -, hcs, ht⟩
  · have := h.len; omega
  · simp only [Value.slice.injEq] at e
    refine ⟨g, us[i]'(by have := h.len; omega), cur, e.1, hb, hu, h.inner i _ l hu hl, hg, ?_⟩
    rw [Bk.cell hg]
    have h2 : (cur.toList.take (us.length * 1))[i]? = us[i]? := by rw [ht]
    rw [List.getElem?_take, if_pos (by have := h.len; omega)] at h2
    rw [← hu, ← h2]
    simp
theorem OwnLL.keep {w w' : World} {base : Nat} {v : Value} {us : List Value} {LL : List (List Cel)} (h : OwnLL w base v us LL) (k1 : ∀ j o, v.ownBlock = some j → w.heap[j]? = some o → w'.heap[j]? = some o)
    (k2 : ∀ j cs, base ≤ j → w.heap[j]? = some (.cells cs 50 (0, 0)) → w'.heap[j]? = some (.cells cs 50 (0, 0))) : OwnLL w' base v us LL := by
  refine ⟨⟨h.outer.1, ?_⟩, h.len, fun i u l hu hl => (h.inner i u l hu hl).keep fun j ob hj ho => ?_, h.apart⟩
  · rcases h.outer.2 with h1 | ⟨g, cap, cur, rfl, hb, hg, rest⟩
    · exact .inl h1
    · exact .inr ⟨g, cap, cur, rfl, hb, k1 g _ rfl hg, rest⟩
  · obtain ⟨hb, cs, hc⟩ := (h.inner i u l hu hl).blk hj
    rw [hc] at ho
    cases ho
    exact k2 j cs hb hc
/-- What a step leaves that turns one list, and the outer block, alone. -/
theorem bod_of {T : Nat → TypeId → Bool} {g gl : Nat} {W Z : World} {cur : Array Value} {u : Value} (hgl : Bk W gl 22 cur) (hT : T gl 22 = false) (hub : ∀ j, u.ownBlock = some j → (∃ cs, W.heap[j]? = some (.cells cs 50 (0, 0))) ∧ T j 50 = false)
    (k : ∀ (j : Nat) (ob : Obj), W.heap[j]? = some ob → j ≠ gl → some j ≠ u.ownBlock → Z.heap[j]? = some ob) (hsz : W.heap.size ≤ Z.heap.size) : Bod T g W Z := by
  refine ⟨hsz, fun i o ho hx => k i o ho ?_ ?_⟩
  · rintro rfl
    rw [show W.heap[i]? = _ from hgl] at ho
    cases ho
    rcases hx with hx | hx
    · cases hx.2
    · rw [mine, hT] at hx; cases hx
  · intro hq
    obtain ⟨⟨cs, hc⟩, ht⟩ := hub i hq.symm
    rw [hc] at ho
    cases ho
    rcases hx with hx | hx
    · cases hx.2
    · rw [mine, ht] at hx; cases hx
/-- One list grown: the append, and the store. -/
theorem ll_grow {W0 w : World} {v : Value} {us : List Value} {LL : List (List Cel)} (o : Old W0 w) (h : OwnLL w W0.heap.size v us LL) {i : Nat} {u : Value} {l : List Cel} (hu : us[i]? = some u) (hl : LL[i]? = some l) {g cap n : Nat} (hv : v = .slice (some ⟨g, 0, none⟩) n cap) {x : Value} {news : List Cel} (hx : Cels w x news) (hlen : (l.length + news.length) * 72 ≤ 140737488355328) (ty : TypeId) :
    ∃ u' w' cur, (Builtin.append_ #[22, 22] ty #[u, x]).run Try.prog w = .ok u' w' ∧ Old W0 w' ∧ Bk w' g 22 cur ∧ (∀ (j : Nat) (ob : Obj), w.heap[j]? = some ob → some j ≠ u.ownBlock → w'.heap[j]? = some ob) ∧
      OwnLL (w'.setCell ⟨g, i, none⟩ u') W0.heap.size v (us.set i u') (LL.set i (l ++ news)) ∧ Old W0 (w'.setCell ⟨g, i, none⟩ u') ∧
      (∀ (j : Nat) (ob : Obj), w.heap[j]? = some ob → j ≠ g → some j ≠ u.ownBlock → (w'.setCell ⟨g, i, none⟩ u').heap[j]? = some ob) ∧ w.heap.size ≤ (w'.setCell ⟨g, i, none⟩ u').heap.size ∧ ∃ A k c, u' = .slice A k c := by
  subst hv
  have hin := h.inner i u l hu hl
  obtain ⟨u', w', hr, hown, o1, hg1, hnew⟩ := run_cels o hin hx hlen ty
  rcases h.outer.2 with ⟨e, -⟩ | ⟨g', cap', cur, e, hb, hgg, hnc, hcm, hcs, ht⟩
  · cases e
  simp only [Value.slice.injEq, Option.some.injEq, Addr.mk.injEq, and_true] at e
  obtain ⟨rfl, e1, rfl⟩ := e
  have hgu : some g ≠ u.ownBlock := fun hq => by
    obtain ⟨-, cs, hc⟩ := hin.blk hq.symm
    rw [hgg] at hc
    cases hc
  have hgg1 : Bk w' g 22 cur := Bk.grown hgg hg1 hgu
  have hsz : w.heap.size ≤ w'.heap.size := hg1.size
  have hil : i < us.length := (List.getElem?_eq_some_iff.1 hu).1
  refine ⟨u', w', cur, hr, o1, hgg1, fun j ob hj hne => (hg1.block j (Array.getElem?_eq_some_iff.1 hj).1 hne).trans hj, ⟨⟨?_, .inr ⟨g, cap, cur.setIfInBounds i u', ?_, hb, ?_, ?_, hcm, by simpa using hcs, ?_⟩⟩, ?_, ?_, ?_⟩, o1.st (p := ⟨g, i, none⟩) hb _, ?_, ?_, by obtain ⟨A, c, e, -⟩ := hown.cels.form; exact ⟨A, _, c, e⟩⟩
  · rw [List.length_set]
    exact h.outer.1
  · rw [List.length_set, e1]
  · have := Bk.set_ hgg1 i u'
    exact this
  · simpa using hnc
  · rw [Array.toList_setIfInBounds, List.length_set, List.take_set, ht]
  · rw [List.length_set, List.length_set]; exact h.len
  · -- the lists
    intro j x y hx' hy'
    by_cases hji : j = i
    · subst hji
      rw [List.getElem?_set_self hil] at hx'
      rw [List.getElem?_set_self (by rw [← h.len]; exact hil)] at hy'
      cases hx'
      cases hy'
      exact hown.keep fun b ob hbk ho => (Bk.far_any w' ho (by
        rintro rfl
        obtain ⟨-, cs, hc⟩ := hown.blk hbk
        rw [show w'.heap[g]? = _ from hgg1] at hc
        cases hc) u')
    · rw [List.getElem?_set_ne (by omega)] at hx' hy'
      have hq := h.inner j x y hx' hy'
      refine hq.keep fun b ob hbk ho => ?_
      have hne : some b ≠ u.ownBlock := fun hh => hji (h.apart j i x u b hx' hu hbk hh.symm)
      have hgb : g ≠ b := by
        rintro rfl
        obtain ⟨-, cs, hc⟩ := hq.blk hbk
        rw [hgg] at hc
        cases hc
      exact Bk.far_any w' ((hg1.block b (Array.getElem?_eq_some_iff.1 ho).1 hne).trans ho) hgb u'
  · -- no two in one block
    intro j k x y b hx' hy' hbx hby
    have hnb : ∀ (j : Nat) (x : Value), j ≠ i → us[j]? = some x → x.ownBlock = some b → u'.ownBlock = some b → False := fun j x hj hx2 h1 h2 => by
      rcases hnew with h3 | h3
      · rw [h3] at h2
        exact hj (h.apart j i x u b hx2 hu h1 h2)
      · rw [h3] at h2
        have : w.heap.size = b := by simpa using h2
        obtain ⟨y2, hy2⟩ : ∃ y2, LL[j]? = some y2 := ⟨LL[j]'(by rw [← h.len]; exact (List.getElem?_eq_some_iff.1 hx2).1), List.getElem?_eq_getElem _⟩
        obtain ⟨-, cs, hc⟩ := (h.inner j x y2 hx2 hy2).blk h1
        have := (Array.getElem?_eq_some_iff.1 hc).1
        omega
    by_cases hji : j = i
    · by_cases hki : k = i
      · rw [hji, hki]
      · subst hji
        rw [List.getElem?_set_self hil] at hx'
        cases hx'
        rw [List.getElem?_set_ne (by omega)] at hy'
        exact (hnb k y hki hy' hby hbx).elim
    · by_cases hki : k = i
      · subst hki
        rw [List.getElem?_set_self hil] at hy'
        cases hy'
        rw [List.getElem?_set_ne (by omega)] at hx'
        exact (hnb j x hji hx' hbx hby).elim
      · rw [List.getElem?_set_ne (by omega)] at hx' hy'
        exact h.apart j k x y b hx' hy' hbx hby
  · intro j ob hj hjg hne
    exact Bk.far_any w' ((hg1.block j (Array.getElem?_eq_some_iff.1 hj).1 hne).trans hj) (Ne.symm hjg) u'
  · simpa [World.setCell] using hsz
/-- One list more: the append. -/
theorem ll_push {W0 w : World} {v : Value} {us : List Value} {LL : List (List Cel)} (o : Old W0 w) (h : OwnLL w W0.heap.size v us LL) {u : Value} {l : List Cel} (hu : OwnC w W0.heap.size u l) (hap : ∀ (j : Nat) (u' : Value) (b : Nat), us[j]? = some u' → u'.ownBlock = some b → u.ownBlock = some b → False) (ga : Nat) (hga : Bk w ga 22 #[u]) (hlen : LL.length ≤ 1000000) (ty : TypeId) :
    ∃ v' w', (Builtin.append_ #[26, 26] ty #[v, .slice (some ⟨ga, 0, none⟩) 1 1]).run Try.prog w = .ok v' w' ∧ Old W0 w' ∧ OwnLL w' W0.heap.size v' (us ++ [u]) (LL ++ [l]) ∧ (∀ (j : Nat) (ob : Obj), w.heap[j]? = some ob → some j ≠ v.ownBlock → w'.heap[j]? = some ob) ∧ w.heap.size ≤ w'.heap.size ∧ (v'.ownBlock = v.ownBlock ∨ v'.ownBlock = some w.heap.size) ∧ ∃ A k c, v' = .slice A k c := by
  obtain ⟨A0, c0, fu, -⟩ := hu.cels.form
  obtain ⟨v', w', hr, hown, o1, hg1, hnew⟩ := run_one 26 22 (.slice none 0 0) 24 (by decide) Try.underlying26 rfl Try.infoSl o h.outer u (by rw [fu]; rfl) ga 1 hga (by rw [h.len]; exact hlen) ty
  have hvb : ∀ j, v.ownBlock = some j → ∃ cs, w.heap[j]? = some (.cells cs 22 (0, 0)) := fun j hj => by
    rcases h.outer.2 with ⟨rfl, -⟩ | ⟨g, cap, cur, rfl, hb, hg, -⟩
    · cases hj
    · have e : g = j := by simpa [Value.ownBlock] using hj
      subst e
      exact ⟨cur, hg⟩
  have keep : ∀ (x : Value) (lx : List Cel), OwnC w W0.heap.size x lx → OwnC w' W0.heap.size x lx := fun x lx hx => hx.keep fun b ob hbk ho => by
    refine (hg1.block b (Array.getElem?_eq_some_iff.1 ho).1 fun hq => ?_).trans ho
    obtain ⟨cs, hc⟩ := hvb b hq.symm
    obtain ⟨-, cs2, hc2⟩ := hx.blk hbk
    rw [hc] at hc2
    cases hc2
  refine ⟨v', w', hr, o1, ⟨?_, by simp [h.len], fun i x lx hx hlx => ?_, fun i j x y b hx hy hbx hby => ?_⟩, fun j ob hj hne => (hg1.block j (Array.getElem?_eq_some_iff.1 hj).1 hne).trans hj, hg1.size, hnew, ?_⟩
  · rw [List.length_append]; exact hown
  · rcases Nat.lt_or_ge i us.length with hi | hi
    · rw [List.getElem?_append_left hi] at hx
      rw [List.getElem?_append_left (by rw [← h.len]; exact hi)] at hlx
      exact keep x lx (h.inner i x lx hx hlx)
    · rw [List.getElem?_append_right hi] at hx
      rw [List.getElem?_append_right (by rw [← h.len]; exact hi), ← h.len] at hlx
      have h0 : i - us.length = 0 := by
        have := (List.getElem?_eq_some_iff.1 hx).1
        simp at this
        omega
      rw [h0] at hx hlx
      simp at hx hlx
      subst hx hlx
      exact keep _ _ hu
  · rcases Nat.lt_or_ge i us.length with hi | hi
    · rw [List.getElem?_append_left hi] at hx
      rcases Nat.lt_or_ge j us.length with hj | hj
      · rw [List.getElem?_append_left hj] at hy
        exact h.apart i j x y b hx hy hbx hby
      · rw [List.getElem?_append_right hj] at hy
        have h0 : j - us.length = 0 := by
          have := (List.getElem?_eq_some_iff.1 hy).1
          simp at this
          omega
        rw [h0] at hy
        simp at hy
        subst hy
        exact (hap i x b hx hbx hby).elim
    · rw [List.getElem?_append_right hi] at hx
      have h0 : i - us.length = 0 := by
        have := (List.getElem?_eq_some_iff.1 hx).1
        simp at this
        omega
      rw [h0] at hx
      simp at hx
      subst hx
      rcases Nat.lt_or_ge j us.length with hj | hj
      · rw [List.getElem?_append_left hj] at hy
        exact (hap j y b hy hby hbx).elim
      · have := (List.getElem?_eq_some_iff.1 hy).1
        simp at this
        omega
  · rcases hown.2 with ⟨rfl, -⟩ | ⟨g, cap, cur, rfl, -⟩
    · exact ⟨_, _, _, rfl⟩
    · exact ⟨_, _, _, rfl⟩
end Go.Proofs.Ytohokmfbcehkgaa
