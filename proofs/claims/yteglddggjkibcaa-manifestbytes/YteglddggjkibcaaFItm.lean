/-
  Items in memory: blocks that hold just these items, what is read, what a swap leaves. No conditions.
-/
import Derived.Test.YteglddggjkibcaaFMth
import Derived.Deep.DeepCutAuto
namespace Go.Proofs.Yteglddggjkibcaa
open Go.RowKit

/-- Block g holds just these cells, of this type, none of them frozen. -/
def Bk (w : World) (g : Nat) (t : TypeId) (cs : Array Value) : Prop := w.heap[g]? = some (.cells cs t (0, 0))
theorem Bk.cell {w : World} {g : Nat} {t : TypeId} {cs : Array Value} (h : Bk w g t cs) (o : Nat) : w.cell? ⟨g, o, none⟩ = cs[o]? := cell_of_row w g o cs t (0, 0) h
theorem Bk.fr {w : World} {g : Nat} {t : TypeId} {cs : Array Value} (h : Bk w g t cs) (o : Nat) : w.frozen? ⟨g, o, none⟩ = false := by
  unfold Bk at h
  simp [World.frozen?, h]
theorem Bk.lt {w : World} {g : Nat} {t : TypeId} {cs : Array Value} (h : Bk w g t cs) : g < w.heap.size := by
  rcases Nat.lt_or_ge g w.heap.size with h1 | h1
  · exact h1
  · unfold Bk at h; rw [Array.getElem?_eq_none h1] at h; cases h
theorem Bk.far {w : World} {g : Nat} {t : TypeId} {cs : Array Value} (h : Bk w g t cs) {p : Addr} (hp : g ≠ p.block) (u : Value) : Bk (w.setCell p u) g t cs :=
  (Below.heap_setCell w p u g hp).trans h
theorem Bk.set_ {w : World} {g : Nat} {t : TypeId} {cs : Array Value} (h : Bk w g t cs) (o : Nat) (u : Value) : Bk (w.setCell ⟨g, o, none⟩ u) g t (cs.setIfInBounds o u) := by
  unfold Bk at *
  simp [World.setCell, Array.getElem?_modify, h]
theorem Bk.old {w w' : World} {g : Nat} {t : TypeId} {cs : Array Value} (h : Bk w g t cs) (hb : Old w w') : Bk w' g t cs := (hb.block g h.lt).trans h
theorem Bk.drew {w : World} {g : Nat} {t : TypeId} {cs : Array Value} (h : Bk w g t cs) : Bk w.drew g t cs := h
theorem Bk.alloc {w : World} {g : Nat} {t : TypeId} {cs : Array Value} (h : Bk w g t cs) (o : Obj) : Bk (w.alloc o) g t cs := h.old (old_alloc _ _)
theorem new_bk (w : World) (t : TypeId) (cs : Array Value) : Bk (w.alloc (.cells cs t)) w.heap.size t cs := heap_alloc_new w _

/-- An item lies here. -/
structure At5 (w : World) (b o : Nat) (x : Itm) : Prop where
  a0 : w.cell? ⟨b, o, none⟩ = some (.int .i64 x.lev)
  a1 : w.cell? ⟨b, o + 1, none⟩ = some (.string (B x.name))
  a2 : w.cell? ⟨b, o + 2, none⟩ = some (.string (B x.low))
  a3 : w.cell? ⟨b, o + 3, none⟩ = some (.string (B x.high))
  a4 : w.cell? ⟨b, o + 4, none⟩ = some (.int .i64 x.many)
theorem At5.held {w : World} {b o : Nat} {x : Itm} (h : At5 w b o x) : w.cell? ⟨b, o, none⟩ = some (.int .i64 x.lev) ∧ w.cell? ⟨b, o + 1, none⟩ = some (.string (B x.name)) ∧ w.cell? ⟨b, o + 2, none⟩ = some (.string (B x.low)) ∧ w.cell? ⟨b, o + 3, none⟩ = some (.string (B x.high)) ∧ w.cell? ⟨b, o + 4, none⟩ = some (.int .i64 x.many) :=
  ⟨h.a0, h.a1, h.a2, h.a3, h.a4⟩
theorem At5.old {w w' : World} {b o : Nat} {x : Itm} (h : At5 w b o x) (k : Old w w') : At5 w' b o x := by
  have hb : b < w.heap.size := by
    have h0 := h.a0
    rcases Nat.lt_or_ge b w.heap.size with h1 | h1
    · exact h1
    · simp [World.cell?, Array.getElem?_eq_none h1] at h0
  obtain ⟨a0, a1, a2, a3, a4⟩ := h
  constructor <;> (rw [kept_cell k _ _ hb]; assumption)
def flat (l : List Itm) : List Value := l.flatMap fun x => (icells x).toList
theorem flat_len (l : List Itm) : (flat l).length = l.length * 5 := by
  induction l with
  | nil => rfl
  | cons x l ih =>
    rw [show flat (x :: l) = (icells x).toList ++ flat l from rfl, List.length_append, ih]
    simp; omega
theorem flat_app (l m : List Itm) : flat (l ++ m) = flat l ++ flat m := by simp [flat]
theorem flat_at (l : List Itm) (i j : Nat) (x : Itm) (h : l[i]? = some x) (hj : j < 5) : (flat l)[i * 5 + j]? = (icells x)[j]? := by
  induction l generalizing i with
  | nil => simp at h
  | cons y l ih =>
    rw [show flat (y :: l) = (icells y).toList ++ flat l from rfl]
    cases i with
    | zero =>
      simp only [List.getElem?_cons_zero, Option.some.injEq] at h
      subst h
      rw [List.getElem?_append_left (by simp; omega)]
      simp
    | succ i =>
      simp only [List.getElem?_cons_succ] at h
      rw [List.getElem?_append_right (by simp; omega), ← ih i h]
      congr 1
      simp
      omega
theorem flat_one (l : List Itm) : ∀ u ∈ flat l, u.oneCell' = true := by
  intro u hu
  obtain ⟨c, -, hc⟩ := List.mem_flatMap.1 hu
  simp at hc
  rcases hc with rfl | rfl | rfl | rfl | rfl <;> rfl
/-- Items lie here, one behind the other. -/
def ItsAt (w : World) (b off : Nat) (l : List Itm) : Prop := ∀ (i : Nat) (x : Itm), l[i]? = some x → At5 w b (off + i * 5) x
theorem ItsAt.old {w w' : World} {b off : Nat} {l : List Itm} (h : ItsAt w b off l) (k : Old w w') : ItsAt w' b off l := fun i x hx => (h i x hx).old k
theorem ItsAt.take_ {w : World} {b off : Nat} {l : List Itm} (h : ItsAt w b off l) (n : Nat) : ItsAt w b off (l.take n) := fun i x hc => h i x (by
  rw [List.getElem?_take] at hc
  split at hc
  · exact hc
  · cases hc)
theorem ItsAt.drop_ {w : World} {b off : Nat} {l : List Itm} (h : ItsAt w b off l) (n : Nat) : ItsAt w b (off + n * 5) (l.drop n) := fun i x hc => by
  rw [List.getElem?_drop] at hc
  have := h (n + i) x hc
  rwa [show off + n * 5 + i * 5 = off + (n + i) * 5 by omega]
theorem its_news {w : World} {b off : Nat} {l : List Itm} (h : ItsAt w b off l) : ∀ j u, (flat l)[j]? = some u → w.cell? ((⟨b, off, none⟩ : Addr).add j) = some u := by
  intro j u hu
  rw [Addr.add_lit]
  have hj : j < l.length * 5 := by rw [← flat_len]; exact (List.getElem?_eq_some_iff.1 hu).1
  have hi : j / 5 < l.length := by omega
  have e := flat_at l (j / 5) (j % 5) l[j / 5] (List.getElem?_eq_getElem hi) (by omega)
  rw [show j / 5 * 5 + j % 5 = j by omega, hu] at e
  have hx := (h (j / 5) _ (List.getElem?_eq_getElem hi)).held
  generalize l[j / 5] = c at *
  have e6 : j % 5 = 0 ∨ j % 5 = 1 ∨ j % 5 = 2 ∨ j % 5 = 3 ∨ j % 5 = 4 := by omega
  obtain ⟨x0, x1, x2, x3, x4⟩ := hx
  rcases e6 with g | g | g | g | g
  · rw [g] at e; rw [show off + j = off + j / 5 * 5 by omega, x0]; exact e.symm
  · rw [g] at e; rw [show off + j = off + j / 5 * 5 + 1 by omega, x1]; exact e.symm
  · rw [g] at e; rw [show off + j = off + j / 5 * 5 + 2 by omega, x2]; exact e.symm
  · rw [g] at e; rw [show off + j = off + j / 5 * 5 + 3 by omega, x3]; exact e.symm
  · rw [g] at e; rw [show off + j = off + j / 5 * 5 + 4 by omega, x4]; exact e.symm

/-- A block that holds these items, and r behind them. -/
def Seg (w : World) (g : Nat) (l : List Itm) (r : List Value) : Prop := Bk w g 60 (flat l ++ r).toArray
theorem Seg.old {w w' : World} {g : Nat} {l : List Itm} {r : List Value} (h : Seg w g l r) (k : Old w w') : Seg w' g l r := Bk.old h k
theorem Seg.drew {w : World} {g : Nat} {l : List Itm} {r : List Value} (h : Seg w g l r) : Seg w.drew g l r := h
theorem Seg.its {w : World} {g : Nat} {l : List Itm} {r : List Value} (h : Seg w g l r) : ItsAt w g 0 l := by
  intro i x hx
  have hi : i < l.length := (List.getElem?_eq_some_iff.1 hx).1
  have hl := flat_len l
  have k : ∀ j, j < 5 → w.cell? ⟨g, 0 + i * 5 + j, none⟩ = (icells x)[j]? := fun j hj => by
    rw [Bk.cell h, ← flat_at l i j x hx hj, List.getElem?_toArray, List.getElem?_append_left (by omega), Nat.zero_add]
  exact ⟨k 0 (by omega), k 1 (by omega), k 2 (by omega), k 3 (by omega), k 4 (by omega)⟩
theorem Seg.at_ {w : World} {g : Nat} {l : List Itm} {r : List Value} (h : Seg w g l r) {i : Nat} {x : Itm} (hx : l[i]? = some x) : At5 w g (i * 5) x := by
  have := h.its i x hx
  rwa [Nat.zero_add] at this
/-- An item is written here. -/
def putI (w : World) (g o : Nat) (x : Itm) : World :=
  ((((w.setCell ⟨g, o, none⟩ (.int .i64 x.lev)).setCell ⟨g, o + 1, none⟩ (.string (B x.name))).setCell ⟨g, o + 2, none⟩ (.string (B x.low))).setCell ⟨g, o + 3, none⟩ (.string (B x.high))).setCell ⟨g, o + 4, none⟩ (.int .i64 x.many)
theorem flat_set (l : List Itm) (i : Nat) (x : Itm) (r : List Value) (hi : i < l.length) :
    flat (l.set i x) ++ r = (((((flat l ++ r).set (i * 5) (.int .i64 x.lev)).set (i * 5 + 1) (.string (B x.name))).set (i * 5 + 2) (.string (B x.low))).set (i * 5 + 3) (.string (B x.high))).set (i * 5 + 4) (.int .i64 x.many) := by
  induction l generalizing i with
  | nil => simp at hi
  | cons y l ih =>
    cases i with
    | zero => rfl
    | succ i =>
      have e : ∀ (a : Array Value) (ha : a.size = 5) (m : List Value) (n : Nat) (u : Value), (a.toList ++ m).set ((i + 1) * 5 + n) u = a.toList ++ m.set (i * 5 + n) u := fun a ha m n u => by
        rw [List.set_append_right _ _ (by simp [ha]; omega)]
        congr 2
        simp [ha]; omega
      rw [show flat ((y :: l).set (i + 1) x) = (icells y).toList ++ flat (l.set i x) from rfl, show flat (y :: l) = (icells y).toList ++ flat l from rfl, List.append_assoc, List.append_assoc, ih i (by simpa using hi)]
      have e0 := fun m u => e (icells y) rfl m 0 u
      simp only [Nat.add_zero] at e0
      rw [e0, e (icells y) rfl, e (icells y) rfl, e (icells y) rfl, e (icells y) rfl]
theorem Seg.put {w : World} {g : Nat} {l : List Itm} {r : List Value} (h : Seg w g l r) {i : Nat} (hi : i < l.length) (x : Itm) : Seg (putI w g (i * 5) x) g (l.set i x) r := by
  unfold Seg
  rw [flat_set l i x r hi]
  have := (((((Bk.set_ h (i * 5) (.int .i64 x.lev)).set_ (i * 5 + 1) (.string (B x.name))).set_ (i * 5 + 2) (.string (B x.low))).set_ (i * 5 + 3) (.string (B x.high))).set_ (i * 5 + 4) (.int .i64 x.many))
  simpa [putI] using this
theorem Old.putI {w w1 : World} (h : Old w w1) {g : Nat} (hg : w.heap.size ≤ g) (o : Nat) (x : Itm) : Old w (putI w1 g o x) :=
  (((((h.st (p := ⟨g, _, none⟩) hg _).st (p := ⟨g, _, none⟩) hg _).st (p := ⟨g, _, none⟩) hg _).st (p := ⟨g, _, none⟩) hg _).st (p := ⟨g, _, none⟩) hg _)
end Go.Proofs.Yteglddggjkibcaa
