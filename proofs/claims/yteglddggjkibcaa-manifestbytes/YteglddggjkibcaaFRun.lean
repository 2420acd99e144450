/-
  Edits one behind the other, as plain mathematics: what stays true; one file at most has a row of a level; files level by level. No program here but one value's shape.
-/
import Derived.Test.YteglddggjkibcaaFLft
namespace Go.Proofs.Yteglddggjkibcaa
open Go.RowKit

noncomputable def stepE (s : St) (e : Ed) : St := if (apF s e).1 = 0 then (apF s e).2 else s
noncomputable def runE (l : List Ed) : St := l.foldl stepE St0
theorem runE_snoc (l : List Ed) (e : Ed) : runE (l ++ [e]) = stepE (runE l) e := by simp [runE]
theorem ap_ok {s : St} {e : Ed} (h : (apF s e).1 = 0) : e.add.all mayF = true ∧ ∃ l m, rdropF (isort s.files) e.del = some l ∧ raddF l e.add = some m ∧ crossL m = false ∧ (apF s e).2 = ⟨m, e.next, e.fl⟩ := by
  unfold apF at h ⊢
  by_cases hc : (e.add.all mayF && (decide (s.next ≤ e.next) && decide (s.fl ≤ e.fl))) = false
  · rw [if_pos hc] at h; cases h
  · rw [if_neg hc] at h ⊢
    simp only [Bool.not_eq_false, Bool.and_eq_true] at hc
    cases h1 : rdropF (isort s.files) e.del with
    | none => rw [h1] at h; cases h
    | some l =>
      rw [h1] at h
      dsimp only at h ⊢
      cases h2 : raddF l e.add with
      | none => rw [h2] at h; cases h
      | some m =>
        rw [h2] at h
        dsimp only at h ⊢
        cases h3 : crossL m with
        | true => rw [h3] at h; cases h
        | false =>
          refine ⟨hc.1, l, m, rfl, h2, h3, ?_⟩
          rfl
theorem ap_good {s : St} {e : Ed} (hg : Good s) (h : (apF s e).1 = 0) : Good (apF s e).2 ∧ (apF s e).2.files.length ≤ s.files.length + e.add.length ∧ (∀ x ∈ (apF s e).2.files, x ∈ s.files ∨ x ∈ e.add) := by
  obtain ⟨hm, l, m, h1, h2, h3, h4⟩ := ap_ok h
  rw [isort_self hg.srt hg.once] at h1
  rw [h4]
  rcases drop_same e.del s.files _ hg.once (cnts_of _) with k | ⟨G, l', k1, k2, k3, k4, k5⟩
  · rw [k.2] at h1; cases h1
  · rw [h1] at k2
    injection k2 with k2
    subst k2
    have hsub : l.Sublist s.files := by rw [k3]; exact List.filter_sublist
    rcases add_same e.add l G (by rw [k3]; exact once_filter hg.once _) (List.Pairwise.sublist hsub hg.srt) k4 with q | ⟨G2, m', q1, q2, q3, q4, q5⟩
    · rw [q.2] at h2; cases h2
    · rw [h2] at q2
      injection q2 with q2
      subst q2
      have hmem : ∀ x ∈ m, x ∈ s.files ∨ x ∈ e.add := fun x hx => by
        rcases List.mem_append.1 (q3.mem_iff.1 hx) with h | h
        · exact .inl (hsub.subset h)
        · exact .inr h
      refine ⟨⟨q4, q5, fun x hx => ?_, fun hc => ?_⟩, ?_, hmem⟩
      · rcases hmem x hx with h | h
        · exact hg.may x h
        · exact List.all_eq_true.1 hm x h
      · rw [(crossL_iff m).2 hc] at h3; cases h3
      · show m.length ≤ _
        rw [q3.length_eq, List.length_append]
        have := hsub.length_le
        omega
/-- What holds behind any bounded edits. -/
structure Runs (n : Nat) (s : St) : Prop where
  good : Good s
  len : s.files.length ≤ 40 * n
  nm : ∀ x ∈ s.files, x.name.length ≤ 1000
theorem Runs.zero : Runs 0 St0 := ⟨good0, by simp, by simp⟩
theorem Runs.ap {n : Nat} {s : St} {e : Ed} (h : Runs n s) (hs : smallE e = true) (h0 : (apF s e).1 = 0) : Runs (n + 1) (apF s e).2 := by
  obtain ⟨g1, g2, g3⟩ := ap_good h.good h0
  obtain ⟨b1, b2, b3, b4⟩ := small_get hs
  have := h.len
  refine ⟨g1, by omega, fun x hx => ?_⟩
  rcases g3 x hx with k | k
  · exact h.nm x k
  · have := (b3 x k).1
    omega
theorem Runs.up {n : Nat} {s : St} (h : Runs n s) : Runs (n + 1) s := ⟨h.good, by have := h.len; omega, h.nm⟩

theorem not_crs {M : List Itm} : ¬ Crs M ↔ M.Pairwise fun y x => ¬ (meet x y = true) := by
  rw [List.pairwise_iff_getElem]
  constructor
  · intro h k i hk hi hki hm
    exact h ⟨i, k, M[i], M[k], hki, List.getElem?_eq_getElem hi, List.getElem?_eq_getElem hk, hm⟩
  · rintro hh ⟨i, k, x, y, h, hx, hy, h3⟩
    obtain ⟨h1, rfl⟩ := List.getElem?_eq_some_iff.1 hx
    obtain ⟨h2, rfl⟩ := List.getElem?_eq_some_iff.1 hy
    exact hh k i h2 h1 h h3
theorem over_one {s : St} (h : Good s) {lv : Int} (hlv : 0 < lv) (row : List UInt8) : (s.files.filter (overF lv row row)).length ≤ 1 := by
  have hp := List.Pairwise.sublist (List.filter_sublist (p := overF lv row row)) (not_crs.1 h.apart)
  have hm : ∀ x ∈ s.files.filter (overF lv row row), overF lv row row x = true := fun x hx => (List.mem_filter.1 hx).2
  generalize s.files.filter (overF lv row row) = L at *
  match L, hp, hm with
  | [], _, _ => simp
  | [x], _, _ => simp
  | a :: b :: r, hp, hm =>
    exfalso
    refine (List.pairwise_cons.1 hp).1 b List.mem_cons_self ?_
    have ha := hm a List.mem_cons_self
    have hb := hm b (List.mem_cons_of_mem _ List.mem_cons_self)
    unfold overF at ha hb
    simp only [Bool.and_eq_true, decide_eq_true_iff] at ha hb
    unfold meet
    rw [leT_trans hb.2.1 ha.2.2, leT_trans ha.2.1 hb.2.2, ha.1, hb.1]
    simpa using hlv
theorem over_eq (lv : Int) (row : List UInt8) (x : Itm) : overF lv row row x = (decide (x.lev = lv) && inF row x) := rfl
theorem over_none {s : St} (h : Good s) (row : List UInt8) : s.files.filter (overF 3 row row) = [] := by
  rw [List.filter_eq_nil_iff]
  intro x hx hov
  have hm := h.may x hx
  unfold mayF at hm
  simp only [Bool.and_eq_true, decide_eq_true_iff] at hm
  unfold overF at hov
  simp only [Bool.and_eq_true, decide_eq_true_iff] at hov
  omega
theorem lev_filter : ∀ (l : List Itm) (q : Itm → Bool), Srt l → (∀ x ∈ l, 0 ≤ x.lev ∧ x.lev < 3) →
    l.filter q = l.filter (fun x => decide (x.lev = 0) && q x) ++ (l.filter (fun x => decide (x.lev = 1) && q x) ++ l.filter (fun x => decide (x.lev = 2) && q x))
  | [], q, _, _ => rfl
  | x :: l, q, hs, hb => by
    obtain ⟨h1, h2⟩ := List.pairwise_cons.1 hs
    have ih := lev_filter l q h2 fun y hy => hb y (List.mem_cons_of_mem _ hy)
    have hx := hb x List.mem_cons_self
    have hle : ∀ y ∈ l, x.lev ≤ y.lev := fun y hy => by
      have h3 := h1 y hy
      unfold cmpI or3 at h3
      have hz := cmpZ_vals x.lev y.lev
      by_cases g : cmpZ x.lev y.lev = 0
      · omega
      · rw [if_pos g] at h3; omega
    have hnil : ∀ lv : Int, lv < x.lev → l.filter (fun y => decide (y.lev = lv) && q y) = [] := fun lv hlv => by
      rw [List.filter_eq_nil_iff]
      intro y hy h
      simp only [Bool.and_eq_true, decide_eq_true_iff] at h
      have := hle y hy
      omega
    by_cases hq : q x = true
    · rw [List.filter_cons_of_pos hq]
      have hc : x.lev = 0 ∨ x.lev = 1 ∨ x.lev = 2 := by omega
      rcases hc with e | e | e
      · rw [List.filter_cons_of_pos (by simp [e, hq]), List.filter_cons_of_neg (by simp [e]), List.filter_cons_of_neg (by simp [e]), ih]
        rfl
      · rw [List.filter_cons_of_neg (by simp [e]), List.filter_cons_of_pos (by simp [e, hq]), List.filter_cons_of_neg (by simp [e]), ih, hnil 0 (by omega)]
        rfl
      · rw [List.filter_cons_of_neg (by simp [e]), List.filter_cons_of_neg (by simp [e]), List.filter_cons_of_pos (by simp [e, hq]), ih, hnil 0 (by omega), hnil 1 (by omega)]
        rfl
    · rw [List.filter_cons_of_neg hq, List.filter_cons_of_neg (by simp [hq]), List.filter_cons_of_neg (by simp [hq]), List.filter_cons_of_neg (by simp [hq])]
      exact ih
theorem find_levels {s : St} (h : Good s) (row : List UInt8) : s.files.filter (inF row) = s.files.filter (overF 0 row row) ++ (s.files.filter (overF 1 row row) ++ s.files.filter (overF 2 row row)) := by
  refine lev_filter s.files (inF row) h.srt fun x hx => ?_
  have hm := h.may x hx
  unfold mayF at hm
  simp only [Bool.and_eq_true, decide_eq_true_iff] at hm
  exact ⟨hm.1, hm.2.1⟩
/-- A state in a law's box. -/
def Sbox (w : World) (g base : Nat) (s : St) : Prop := ∃ v, Bk w g 27 #[v, .int .u64 (s.next : Int), .int .u64 (s.fl : Int)] ∧ OwnE 60 w base v s.files
theorem Sbox.old {w w' : World} {g base : Nat} {s : St} (h : Sbox w g base s) (k : Old w w') : Sbox w' g base s := by
  obtain ⟨v, h1, h2⟩ := h
  exact ⟨v, h1.old k, h2.old k⟩
theorem ed_keep {w W : World} {g o2 b : Nat} {x0 x1 x2 y0 y1 y2 y3 : Value} {W' : World} (k0 : Old w W ∧ W.cell? ⟨g, 0, none⟩ = some x0 ∧ W.cell? ⟨g, 1, none⟩ = some x1 ∧ W.cell? ⟨g, 2, none⟩ = some x2 ∧ W.cell? ⟨b, o2, none⟩ = some y0 ∧ W.cell? ⟨b, o2 + 1, none⟩ = some y1 ∧ W.cell? ⟨b, o2 + 2, none⟩ = some y2 ∧ W.cell? ⟨b, o2 + 3, none⟩ = some y3) (k : Old W W') :
    Old w W' ∧ W'.cell? ⟨g, 0, none⟩ = some x0 ∧ W'.cell? ⟨g, 1, none⟩ = some x1 ∧ W'.cell? ⟨g, 2, none⟩ = some x2 ∧ W'.cell? ⟨b, o2, none⟩ = some y0 ∧ W'.cell? ⟨b, o2 + 1, none⟩ = some y1 ∧ W'.cell? ⟨b, o2 + 2, none⟩ = some y2 ∧ W'.cell? ⟨b, o2 + 3, none⟩ = some y3 := by
  obtain ⟨h0, a0, a1, a2, b0, b1, b2, b3⟩ := k0
  exact ⟨h0.tr k, cell_old a0 k, cell_old a1 k, cell_old a2 k, cell_old b0 k, cell_old b1 k, cell_old b2 k, cell_old b3 k⟩
theorem new_far {W : World} {g o : Nat} {x : Value} (h : W.cell? ⟨g, o, none⟩ = some x) (ob : Obj) (u0 u1 u2 : Value) : ((((W.alloc ob).setCell ⟨W.heap.size, 0, none⟩ u0).setCell ⟨W.heap.size, 1, none⟩ u1).setCell ⟨W.heap.size, 2, none⟩ u2).cell? ⟨g, o, none⟩ = some x := by
  have hlt : g < W.heap.size := by
    rcases Nat.lt_or_ge g W.heap.size with h1 | h1
    · exact h1
    · simp [World.cell?, Array.getElem?_eq_none h1] at h
  rw [far_cell _ _ _ _ _ _ (by omega), far_cell _ _ _ _ _ _ (by omega), far_cell _ _ _ _ _ _ (by omega)]
  exact cell_old h (old_alloc _ _)
theorem ed_new {w W : World} {g o2 b : Nat} {x0 x1 x2 y0 y1 y2 y3 u0 u1 u2 : Value} {ob : Obj} {W' : World} (k0 : Old w W ∧ W.cell? ⟨g, 0, none⟩ = some x0 ∧ W.cell? ⟨g, 1, none⟩ = some x1 ∧ W.cell? ⟨g, 2, none⟩ = some x2 ∧ W.cell? ⟨b, o2, none⟩ = some y0 ∧ W.cell? ⟨b, o2 + 1, none⟩ = some y1 ∧ W.cell? ⟨b, o2 + 2, none⟩ = some y2 ∧ W.cell? ⟨b, o2 + 3, none⟩ = some y3)
    (hW : W' = (((W.alloc ob).setCell ⟨W.heap.size, 0, none⟩ u0).setCell ⟨W.heap.size, 1, none⟩ u1).setCell ⟨W.heap.size, 2, none⟩ u2) :
    Old w W' ∧ W'.cell? ⟨g, 0, none⟩ = some x0 ∧ W'.cell? ⟨g, 1, none⟩ = some x1 ∧ W'.cell? ⟨g, 2, none⟩ = some x2 ∧ W'.cell? ⟨b, o2, none⟩ = some y0 ∧ W'.cell? ⟨b, o2 + 1, none⟩ = some y1 ∧ W'.cell? ⟨b, o2 + 2, none⟩ = some y2 ∧ W'.cell? ⟨b, o2 + 3, none⟩ = some y3 := by
  subst hW
  obtain ⟨h0, a0, a1, a2, b0, b1, b2, b3⟩ := k0
  have hz := h0.size
  exact ⟨(((h0.al ob).st (p := ⟨W.heap.size, _, none⟩) hz _).st (p := ⟨W.heap.size, _, none⟩) hz _).st (p := ⟨W.heap.size, _, none⟩) hz _, new_far a0 _ _ _ _, new_far a1 _ _ _ _, new_far a2 _ _ _ _, new_far b0 _ _ _ _, new_far b1 _ _ _ _, new_far b2 _ _ _ _, new_far b3 _ _ _ _⟩
theorem ed_far {w W : World} {g o2 b h : Nat} {x0 x1 x2 y0 y1 y2 y3 u0 u1 u2 : Value} {W' : World} (k0 : Old w W ∧ W.cell? ⟨g, 0, none⟩ = some x0 ∧ W.cell? ⟨g, 1, none⟩ = some x1 ∧ W.cell? ⟨g, 2, none⟩ = some x2 ∧ W.cell? ⟨b, o2, none⟩ = some y0 ∧ W.cell? ⟨b, o2 + 1, none⟩ = some y1 ∧ W.cell? ⟨b, o2 + 2, none⟩ = some y2 ∧ W.cell? ⟨b, o2 + 3, none⟩ = some y3)
    (hz : w.heap.size ≤ h) (hg : g < h) (hb : b < h) (hW : W' = ((W.setCell ⟨h, 0, none⟩ u0).setCell ⟨h, 1, none⟩ u1).setCell ⟨h, 2, none⟩ u2) :
    Old w W' ∧ W'.cell? ⟨g, 0, none⟩ = some x0 ∧ W'.cell? ⟨g, 1, none⟩ = some x1 ∧ W'.cell? ⟨g, 2, none⟩ = some x2 ∧ W'.cell? ⟨b, o2, none⟩ = some y0 ∧ W'.cell? ⟨b, o2 + 1, none⟩ = some y1 ∧ W'.cell? ⟨b, o2 + 2, none⟩ = some y2 ∧ W'.cell? ⟨b, o2 + 3, none⟩ = some y3 := by
  subst hW
  obtain ⟨h0, a0, a1, a2, b0, b1, b2, b3⟩ := k0
  have e : ∀ x, x < h → ∀ o, (((W.setCell ⟨h, 0, none⟩ u0).setCell ⟨h, 1, none⟩ u1).setCell ⟨h, 2, none⟩ u2).cell? ⟨x, o, none⟩ = W.cell? ⟨x, o, none⟩ := fun x hx o => by
    rw [far_cell _ _ _ _ _ _ (by omega), far_cell _ _ _ _ _ _ (by omega), far_cell _ _ _ _ _ _ (by omega)]
  exact ⟨((h0.st (p := ⟨h, _, none⟩) hz _).st (p := ⟨h, _, none⟩) hz _).st (p := ⟨h, _, none⟩) hz _, (e g hg 0).trans a0, (e g hg 1).trans a1, (e g hg 2).trans a2, (e b hb _).trans b0, (e b hb _).trans b1, (e b hb _).trans b2, (e b hb _).trans b3⟩
theorem cell_lt {W : World} {g o : Nat} {x : Value} (h : W.cell? ⟨g, o, none⟩ = some x) : g < W.heap.size := by
  rcases Nat.lt_or_ge g W.heap.size with h1 | h1
  · exact h1
  · simp [World.cell?, Array.getElem?_eq_none h1] at h
end Go.Proofs.Yteglddggjkibcaa
