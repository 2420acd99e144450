/-
  Slices of files: such as can be read, such as are the call's own, append of some; what stays while another block is written. Conditions: lengths as written.
-/
import Derived.Test.YteglddggjkibcaaFItm
import Derived.Deep.AppendLies
import Derived.Deep.RegionLaw
import Derived.Deep.RegionHeldLaw
import Derived.Laws.OwnMore
namespace Go.Proofs.Yteglddggjkibcaa
open Go.RowKit

theorem Try.infoItem : (Try.prog.info? 60).map (fun i => (i.zero, i.size, i.bytes)) = some (some (.agg zeroItem), 5, 64) := by kernel_rfl
theorem Try.infoItemR : (Try.prog.info? 75).map (fun i => (i.zero, i.size, i.bytes)) = some (some (.agg zeroItem), 5, 64) := by kernel_rfl
theorem cell_old2 {w w' : World} {b o : Nat} {v : Value} (h : w.cell? ⟨b, o, none⟩ = some v) (k : Old w w') : w'.cell? ⟨b, o, none⟩ = some v := by
  have hb : b < w.heap.size := by
    rcases Nat.lt_or_ge b w.heap.size with h1 | h1
    · exact h1
    · simp [World.cell?, Array.getElem?_eq_none h1] at h
  rw [kept_cell k _ _ hb]
  exact h
theorem Bk.grown {w w' : World} {g : Nat} {t : TypeId} {cs : Array Value} {row : Option Nat} (h : Bk w g t cs) (hg : w.grownBy w' row) (hne : some g ≠ row) : Bk w' g t cs :=
  (hg.block g h.lt hne).trans h
/-- A slice that reads as these items. -/
def Itms (w : World) (v : Value) (l : List Itm) : Prop := (v = .slice none 0 0 ∧ l = []) ∨ ∃ A cap, v = .slice (some A) l.length cap ∧ l.length ≤ cap ∧ (l ≠ [] → ∃ b off, A = ⟨b, off, none⟩ ∧ ItsAt w b off l)
theorem Itms.old {w w' : World} {v : Value} {l : List Itm} (h : Itms w v l) (o : Old w w') : Itms w' v l := by
  rcases h with h | ⟨A, cap, h1, h2, h3⟩
  · exact .inl h
  · refine .inr ⟨A, cap, h1, h2, fun hl => ?_⟩
    obtain ⟨b, off, e, k⟩ := h3 hl
    exact ⟨b, off, e, k.old o⟩
theorem Itms.form {w : World} {v : Value} {l : List Itm} (h : Itms w v l) : ∃ A cap, v = .slice A l.length cap ∧ l.length ≤ cap := by
  rcases h with ⟨rfl, rfl⟩ | ⟨A, cap, h1, h2, h3⟩
  · exact ⟨none, 0, rfl, Nat.le_refl _⟩
  · exact ⟨_, _, h1, h2⟩
theorem Itms.at_ {w : World} {A : Option Addr} {n cap : Nat} {l : List Itm} (h : Itms w (.slice A n cap) l) {i : Nat} {x : Itm} (hx : l[i]? = some x) : ∃ b off, A = some ⟨b, off, none⟩ ∧ At5 w b (off + i * 5) x := by
  rcases h with ⟨h1, rfl⟩ | ⟨A', cap', h1, h2, h3⟩
  · simp at hx
  · obtain ⟨b, off, rfl, k⟩ := h3 (by rintro rfl; simp at hx)
    injection h1 with e1 e2 e3
    exact ⟨b, off, e1, k i x hx⟩
/-- A slice of the call's own, of items (of the code's type, or the reference's). -/
def OwnE (e : TypeId) (w : World) (base : Nat) (v : Value) (l : List Itm) : Prop := w.ownsRow base e 5 v l.length (flat l)
theorem OwnE.nil (e : TypeId) (w : World) (base : Nat) : OwnE e w base (.slice none 0 0) [] := World.ownsRow_nil _ _ _ _
theorem OwnE.empty {e : TypeId} {w : World} {base g : Nat} (h : Bk w g e #[]) (hb : base ≤ g) : OwnE e w base (.slice (some ⟨g, 0, none⟩) 0 0) [] :=
  ⟨rfl, .inr ⟨g, 0, #[], rfl, hb, h, Nat.le_refl _, by simp, rfl, rfl⟩⟩
theorem OwnE.old {e : TypeId} {w w' : World} {base : Nat} {v : Value} {l : List Itm} (h : OwnE e w base v l) (k : Old w w') : OwnE e w' base v l := by
  refine ⟨h.1, ?_⟩
  rcases h.2 with h1 | ⟨gg, cap, cur, hv, hb, hg, rest⟩
  · exact .inl h1
  · exact .inr ⟨gg, cap, cur, hv, hb, (k.block _ (Array.getElem?_eq_some_iff.1 hg).1).trans hg, rest⟩
theorem OwnE.its {e : TypeId} {w : World} {base : Nat} {v : Value} {l : List Itm} (h : OwnE e w base v l) : Itms w v l := by
  rcases h.2 with ⟨rfl, hn⟩ | ⟨g, cap, cur, hv, hb, hg, hnc, hcm, hcs, htake⟩
  · exact .inl ⟨rfl, List.eq_nil_of_length_eq_zero hn⟩
  · refine .inr ⟨⟨g, 0, none⟩, cap, hv, hnc, fun _ => ⟨g, 0, rfl, fun i c hc => ?_⟩⟩
    have hcell : ∀ j, j < 5 → w.cell? ⟨g, 0 + i * 5 + j, none⟩ = (icells c)[j]? := by
      intro j hj
      have h1 := flat_at l i j c hc hj
      have h2 : ((icells c)[j]?).isSome := by simp; omega
      obtain ⟨u, hu⟩ := Option.isSome_iff_exists.1 h2
      rw [hu] at h1 ⊢
      have h3 := World.ownsRow.cells h (g := g) (by rw [hv]; rfl) _ _ h1
      rw [Addr.add_lit] at h3
      rw [Nat.zero_add] at h3 ⊢
      exact h3
    exact ⟨hcell 0 (by omega), hcell 1 (by omega), hcell 2 (by omega), hcell 3 (by omega), hcell 4 (by omega)⟩
/-- Such a slice of the code's own items, as the sort wants it. -/
theorem OwnE.seg {w : World} {base : Nat} {v : Value} {l : List Itm} (h : OwnE 60 w base v l) : (v = .slice none 0 0 ∧ l = []) ∨ ∃ g cap r, v = .slice (some ⟨g, 0, none⟩) l.length cap ∧ base ≤ g ∧ l.length ≤ cap ∧ Seg w g l r := by
  rcases h.2 with ⟨rfl, hn⟩ | ⟨g, cap, cur, hv, hb, hg, hnc, hcm, hcs, htake⟩
  · exact .inl ⟨rfl, List.eq_nil_of_length_eq_zero hn⟩
  · refine .inr ⟨g, cap, cur.toList.drop (l.length * 5), hv, hb, hnc, ?_⟩
    unfold Seg Bk
    rw [← htake, List.take_append_drop]
    simpa using hg

/-- append(v, x..) of items: what comes of it. -/
theorem run_its {W0 w : World} {v x : Value} {xs news : List Itm} (t e : TypeId) (ht : Try.prog.underlying t = some (.slice e)) (hi : (Try.prog.info? e).map (fun i => (i.zero, i.size, i.bytes)) = some (some (.agg zeroItem), 5, 64)) (o : Old W0 w) (hown : OwnE e w W0.heap.size v xs) (hx : Itms w x news) (hlen : xs.length + news.length ≤ 100000) (ty : TypeId) :
    ∃ v' w', (Builtin.append_ #[t, t] ty #[v, x]).run Try.prog w = .ok v' w' ∧ OwnE e w' W0.heap.size v' (xs ++ news) ∧ Old W0 w' ∧ (∀ g t cs, Bk w g t cs → some g ≠ v.ownBlock → Bk w' g t cs) := by
  obtain ⟨i0, hi, hz0, hz1, hz2⟩ := info_parts hi
  rcases hx with ⟨rfl, rfl⟩ | ⟨A, cap, rfl, hc, hA⟩
  · refine ⟨v, w, run_append_owned_none (P := Try.prog) w W0.heap.size t ty e i0 5 ht hi v xs.length (flat xs) hown, by rw [List.append_nil]; exact hown, o, fun g t cs hb _ => hb⟩
  · have hnews : ∀ j u, (flat news)[j]? = some u → w.cell? (A.add j) = some u := by
      intro j u hu
      have hne : news ≠ [] := by rintro rfl; simp [flat] at hu
      obtain ⟨b, off, rfl, k⟩ := hA hne
      exact its_news k j u hu
    obtain ⟨v', w', hr, h2, h3, -, -⟩ := run_append_own_at (P := Try.prog) w W0.heap.size t ty e i0 (.agg zeroItem) 5 64 ht hi hz0 hz1 hz2 rfl (by decide) v xs.length (flat xs) hown A news.length cap (flat news) (flat_len _) hnews (flat_one _) (by unfold maxLen; omega) (by omega) o.size
    refine ⟨v', w', hr, ?_, o.trans ((Below.refl _ _).grown h3 o.size (fun k hk => (World.ownsRow.lt hown k hk).1)), fun g t cs hb hne => hb.grown h3 hne⟩
    unfold OwnE
    rw [flat_app, List.length_append]
    exact h2
theorem wp_its {ops : Array Oper} {rest : List Oper} {op : Oper} {a : Act} {Q : Exit → Act → World → Prop} {W0 w : World} (hgd : op.guard = none) (s x : Operand) (t e : TypeId) (ht : Try.prog.underlying t = some (.slice e)) (hi : (Try.prog.info? e).map (fun i => (i.zero, i.size, i.bytes)) = some (some (.agg zeroItem), 5, 64))
    (ho : op.op = .call { callee := .builtin .append, args := #[s, x], argTypes := #[t, t] })
    (hW : Old W0 w) (v : Value) (xs news : List Itm) (hs : a.eval s = v) (hown : OwnE e w W0.heap.size v xs) (xv : Value) (hx : a.eval x = xv) (hnews : Itms w xv news) (hlen : xs.length + news.length ≤ 100000)
    (h : ∀ v' w', OwnE e w' W0.heap.size v' (xs ++ news) → Old W0 w' → wpList Try.prog ops Q rest (a.put op.dst v') w') : wpList Try.prog ops Q (op :: rest) a w := by
  obtain ⟨v', w', hr, h2, h3, h4⟩ := run_its t e ht hi hW hown hnews hlen op.type
  refine wpList_plain hgd fun K hK => ?_
  unfold Oper.wp execOp
  simp only [ho, resolve, invoke, builtin, Sem.run_bind, Sem.run_pure, Result.andThen_ok, List.map_toArray, List.map_cons, List.map_nil, hs, hx, hr]
  exact hK _ _ (h v' w' h2 h3)
theorem step_its {ops : Array Oper} {op : Oper} {a : Act} {K : Act → World → Prop} {Q : Exit → Act → World → Prop} {E : Prop} {W0 w : World} (hgd : op.guard = none) (d : Option Nat) (hd : op.dst = d) (s x : Operand) (t e : TypeId) (ht : Try.prog.underlying t = some (.slice e)) (hi : (Try.prog.info? e).map (fun i => (i.zero, i.size, i.bytes)) = some (some (.agg zeroItem), 5, 64))
    (ho : op.op = .call { callee := .builtin .append, args := #[s, x], argTypes := #[t, t] })
    (hW : Old W0 w) (v : Value) (xs news : List Itm) (hs : a.eval s = v) (hown : OwnE e w W0.heap.size v xs) (xv : Value) (hx : a.eval x = xv) (hnews : Itms w xv news) (hlen : xs.length + news.length ≤ 100000)
    (h : ∀ v' w', OwnE e w' W0.heap.size v' (xs ++ news) → Old W0 w' → (∀ g t cs, Bk w g t cs → some g ≠ v.ownBlock → Bk w' g t cs) → K (a.put d v') w') :
    if Region.wanted op (yielded ops a.tmps) = true then Oper.wp Try.prog op a w K Q else E := by
  obtain ⟨v', w', hr, h2, h3, h4⟩ := run_its t e ht hi hW hown hnews hlen op.type
  have hw : Region.wanted op (yielded ops a.tmps) = true := by simp [Region.wanted, hgd]
  rw [if_pos hw]
  subst hd
  unfold Oper.wp execOp
  simp only [ho, resolve, invoke, builtin, Sem.run_bind, Sem.run_pure, Result.andThen_ok, List.map_toArray, List.map_cons, List.map_nil, hs, hx, hr]
  exact h v' w' h2 h3 h4
/-- An own slice of items that is not nil. -/
def OwnN (e : TypeId) (w : World) (base : Nat) (v : Value) (l : List Itm) : Prop := OwnE e w base v l ∧ v ≠ .slice none 0 0
theorem OwnN.old {e : TypeId} {w w' : World} {base : Nat} {v : Value} {l : List Itm} (h : OwnN e w base v l) (k : Old w w') : OwnN e w' base v l := ⟨h.1.old k, h.2⟩
theorem OwnN.empty {e : TypeId} {w : World} {base g : Nat} (h : Bk w g e #[]) (hb : base ≤ g) : OwnN e w base (.slice (some ⟨g, 0, none⟩) 0 0) [] := ⟨OwnE.empty h hb, by simp⟩
theorem OwnN.form {e : TypeId} {w : World} {base : Nat} {v : Value} {l : List Itm} (h : OwnN e w base v l) : ∃ g cap r, v = .slice (some ⟨g, 0, none⟩) l.length cap ∧ base ≤ g ∧ l.length ≤ cap ∧ Bk w g e (flat l ++ r).toArray ∧ cap * 5 = l.length * 5 + r.length ∧ cap ≤ maxLen := by
  rcases h.1.2 with ⟨h1, -⟩ | ⟨g, cap, cur, hv, hb, hg, hnc, hcm, hcs, htake⟩
  · exact absurd h1 h.2
  · refine ⟨g, cap, cur.toList.drop (l.length * 5), hv, hb, hnc, ?_, ?_, hcm⟩
    · unfold Bk
      rw [← htake, List.take_append_drop]
      simpa using hg
    · simp; omega
theorem bk_at {e : TypeId} {w : World} {g : Nat} {l : List Itm} {r : List Value} (h : Bk w g e (flat l ++ r).toArray) {i : Nat} {x : Itm} (hx : l[i]? = some x) : At5 w g (i * 5) x := by
  have hi : i < l.length := (List.getElem?_eq_some_iff.1 hx).1
  have hl := flat_len l
  have k : ∀ j, j < 5 → w.cell? ⟨g, i * 5 + j, none⟩ = (icells x)[j]? := fun j hj => by
    rw [Bk.cell h, ← flat_at l i j x hx hj, List.getElem?_toArray, List.getElem?_append_left (by omega)]
  exact ⟨k 0 (by omega), k 1 (by omega), k 2 (by omega), k 3 (by omega), k 4 (by omega)⟩
theorem bk_its {e : TypeId} {w : World} {g : Nat} {l : List Itm} {r : List Value} (h : Bk w g e (flat l ++ r).toArray) : ItsAt w g 0 l := fun i x hx => by rw [Nat.zero_add]; exact bk_at h hx
theorem own_mk {e : TypeId} {w : World} {base g cap : Nat} {l : List Itm} {r : List Value} (h : Bk w g e (flat l ++ r).toArray) (hb : base ≤ g) (hc : l.length ≤ cap) (hr : cap * 5 = l.length * 5 + r.length) (hm : cap ≤ maxLen) : OwnN e w base (.slice (some ⟨g, 0, none⟩) l.length cap) l :=
  ⟨⟨flat_len l, .inr ⟨g, cap, _, rfl, hb, h, hc, hm, by simp [flat_len]; omega, by simp [← flat_len]⟩⟩, by simp⟩
/-- append(v, x..) of items, v not nil. -/
theorem run_itsN {W0 w : World} {v x : Value} {xs news : List Itm} (t e : TypeId) (ht : Try.prog.underlying t = some (.slice e)) (hi : (Try.prog.info? e).map (fun i => (i.zero, i.size, i.bytes)) = some (some (.agg zeroItem), 5, 64)) (o : Old W0 w) (hown : OwnN e w W0.heap.size v xs) (hx : Itms w x news) (hlen : xs.length + news.length ≤ 100000) (ty : TypeId) :
    ∃ v' w', (Builtin.append_ #[t, t] ty #[v, x]).run Try.prog w = .ok v' w' ∧ OwnN e w' W0.heap.size v' (xs ++ news) ∧ Old W0 w' ∧ (∀ g t cs, Bk w g t cs → some g ≠ v.ownBlock → Bk w' g t cs) := by
  obtain ⟨i0, hi, hz0, hz1, hz2⟩ := info_parts hi
  rcases hx with ⟨rfl, rfl⟩ | ⟨A, cap, rfl, hc, hA⟩
  · refine ⟨v, w, run_append_owned_none (P := Try.prog) w W0.heap.size t ty e i0 5 ht hi v xs.length (flat xs) hown.1, by rw [List.append_nil]; exact hown, o, fun g t cs hb _ => hb⟩
  · have hnews : ∀ j u, (flat news)[j]? = some u → w.cell? (A.add j) = some u := by
      intro j u hu
      have hne : news ≠ [] := by rintro rfl; simp [flat] at hu
      obtain ⟨b, off, rfl, k⟩ := hA hne
      exact its_news k j u hu
    obtain ⟨v', w', hr, h2, h3, h4, -⟩ := run_append_own_at (P := Try.prog) w W0.heap.size t ty e i0 (.agg zeroItem) 5 64 ht hi hz0 hz1 hz2 rfl (by decide) v xs.length (flat xs) hown.1 A news.length cap (flat news) (flat_len _) hnews (flat_one _) (by unfold maxLen; omega) (by omega) o.size
    refine ⟨v', w', hr, ⟨?_, fun h => hown.2 (h4.1 h).1⟩, o.trans ((Below.refl _ _).grown h3 o.size (fun k hk => (World.ownsRow.lt hown.1 k hk).1)), fun g t cs hb hne => hb.grown h3 hne⟩
    unfold OwnE
    rw [flat_app, List.length_append]
    exact h2
theorem step_itsN {ops : Array Oper} {op : Oper} {a : Act} {K : Act → World → Prop} {Q : Exit → Act → World → Prop} {E : Prop} {W0 w : World} (hgd : op.guard = none) (d : Option Nat) (hd : op.dst = d) (s x : Operand) (t e : TypeId) (ht : Try.prog.underlying t = some (.slice e)) (hi : (Try.prog.info? e).map (fun i => (i.zero, i.size, i.bytes)) = some (some (.agg zeroItem), 5, 64))
    (ho : op.op = .call { callee := .builtin .append, args := #[s, x], argTypes := #[t, t] })
    (hW : Old W0 w) (v : Value) (xs news : List Itm) (hs : a.eval s = v) (hown : OwnN e w W0.heap.size v xs) (xv : Value) (hx : a.eval x = xv) (hnews : Itms w xv news) (hlen : xs.length + news.length ≤ 100000)
    (h : ∀ v' w', OwnN e w' W0.heap.size v' (xs ++ news) → Old W0 w' → (∀ g t cs, Bk w g t cs → some g ≠ v.ownBlock → Bk w' g t cs) → K (a.put d v') w') :
    if Region.wanted op (yielded ops a.tmps) = true then Oper.wp Try.prog op a w K Q else E := by
  obtain ⟨v', w', hr, h2, h3, h4⟩ := run_itsN t e ht hi hW hown hnews hlen op.type
  have hw : Region.wanted op (yielded ops a.tmps) = true := by simp [Region.wanted, hgd]
  rw [if_pos hw]
  subst hd
  unfold Oper.wp execOp
  simp only [ho, resolve, invoke, builtin, Sem.run_bind, Sem.run_pure, Result.andThen_ok, List.map_toArray, List.map_cons, List.map_nil, hs, hx, hr]
  exact h v' w' h2 h3 h4
theorem take_at {α : Type} {l : List α} {i : Nat} {c : α} (h : l[i]? = some c) : l.take i ++ [c] = l.take (i + 1) := by
  obtain ⟨h2, h3⟩ := List.getElem?_eq_some_iff.1 h
  rw [List.take_succ_eq_append_getElem h2, h3]
/-- A block with one item, as a slice. -/
theorem one_its {e : TypeId} {w : World} {g : Nat} {x : Itm} (h : Bk w g e (icells x)) : Itms w (.slice (some ⟨g, 0, none⟩) 1 1) [x] :=
  .inr ⟨⟨g, 0, none⟩, 1, rfl, Nat.le_refl _, fun _ => ⟨g, 0, rfl, fun i y hy => by
    cases i with
    | zero =>
      simp at hy
      subst hy
      exact ⟨h.cell 0, h.cell 1, h.cell 2, h.cell 3, h.cell 4⟩
    | succ i => simp at hy⟩⟩
theorem new_bk1 (w : World) (o : Obj) (t : TypeId) (cs : Array Value) : Bk ((w.alloc o).alloc (.cells cs t)) (w.heap.size + 1) t cs := by
  have h := new_bk (w.alloc o) t cs
  simpa using h

theorem Bk.ne {w : World} {g h : Nat} {t u : TypeId} {cs ds : Array Value} (a : Bk w g t cs) (b : Bk w h u ds) (hne : t ≠ u) : g ≠ h := by
  rintro rfl
  unfold Bk at *
  rw [a] at b
  injection b with b
  injection b with _ b
  exact hne b
/-- An own slice stays while another block is written. -/
theorem OwnE.far {e t : TypeId} {w : World} {base g : Nat} {v : Value} {l : List Itm} {cs : Array Value} (h : OwnE e w base v l) (hb : Bk w g t cs) (hne : t ≠ e) (o : Nat) (u : Value) : OwnE e (w.setCell ⟨g, o, none⟩ u) base v l := by
  refine ⟨h.1, ?_⟩
  rcases h.2 with h1 | ⟨gg, cap, cur, hv, hb1, hg, rest⟩
  · exact .inl h1
  · have : gg ≠ g := Bk.ne (show Bk w gg e cur from hg) hb (fun x => hne x.symm)
    exact .inr ⟨gg, cap, cur, hv, hb1, Bk.far (show Bk w gg e cur from hg) this u, rest⟩
theorem OwnE.drew {e : TypeId} {w : World} {base : Nat} {v : Value} {l : List Itm} (h : OwnE e w base v l) : OwnE e w.drew base v l := h.old (Old.re w).dr
theorem OwnE.lower {e : TypeId} {w : World} {base b2 : Nat} {v : Value} {l : List Itm} (h : OwnE e w base v l) (hb : b2 ≤ base) : OwnE e w b2 v l := by
  refine ⟨h.1, ?_⟩
  rcases h.2 with h1 | ⟨gg, cap, cur, hv, hb1, rest⟩
  · exact .inl h1
  · exact .inr ⟨gg, cap, cur, hv, Nat.le_trans hb hb1, rest⟩
theorem OwnE.form {e : TypeId} {w : World} {base : Nat} {v : Value} {l : List Itm} (h : OwnE e w base v l) : ∃ A cap, v = .slice A l.length cap ∧ l.length ≤ cap := h.its.form
theorem Bk.five {w : World} {g : Nat} {t : TypeId} {x : Itm} (h : Bk w g t (icells x)) : w.cell? ⟨g, 0, none⟩ = some (.int .i64 x.lev) ∧ w.cell? ⟨g, 1, none⟩ = some (.string (B x.name)) ∧ w.cell? ⟨g, 2, none⟩ = some (.string (B x.low)) ∧ w.cell? ⟨g, 3, none⟩ = some (.string (B x.high)) ∧ w.cell? ⟨g, 4, none⟩ = some (.int .i64 x.many) := ⟨h.cell 0, h.cell 1, h.cell 2, h.cell 3, h.cell 4⟩
theorem Itms.nil (w : World) : Itms w (.slice none 0 0) [] := .inl ⟨rfl, rfl⟩
theorem one_own {e : TypeId} {w : World} {base g : Nat} {x : Itm} (h : Bk w g e (icells x)) (hb : base ≤ g) : OwnE e w base (.slice (some ⟨g, 0, none⟩) 1 1) [x] :=
  ⟨rfl, .inr ⟨g, 1, icells x, rfl, hb, h, Nat.le_refl _, by unfold maxLen; omega, rfl, rfl⟩⟩
end Go.Proofs.Yteglddggjkibcaa
