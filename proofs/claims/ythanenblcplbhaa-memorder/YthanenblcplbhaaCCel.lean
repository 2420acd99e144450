/-
  Cells in memory: slices that read as these cells, own ones, append of some; append of one thing of one cell. Conditions: lengths as written.
-/
import Derived.Test.YthanenblcplbhaaMOrd
import Derived.Test.YthanenblcplbhaaMDcd
import Derived.Deep.AppendLies
import Derived.Deep.RegionLaw
import Derived.Deep.RegionHeldLaw
import Derived.Laws.OwnMore
namespace Go.Proofs.Ythanenblcplbhaa
open Go.RowKit

theorem Bk.grown {w w' : World} {g : Nat} {t : TypeId} {cs : Array Value} {row : Option Nat} (h : Bk w g t cs) (hg : w.grownBy w' row) (hne : some g ≠ row) : Bk w' g t cs :=
  (hg.block g h.lt hne).trans h
theorem Try.infoCell : (Try.prog.info? 31).map (fun i => (i.zero, i.size, i.bytes)) = some (some (.agg zeroCell), 6, 72) := by kernel_rfl
/-- A cell lies here. -/
structure At6 (w : World) (b o : Nat) (x : Cel) : Prop where
  a0 : w.cell? ⟨b, o, none⟩ = some (.string (B x.row))
  a1 : w.cell? ⟨b, o + 1, none⟩ = some (.string (B x.col))
  a2 : w.cell? ⟨b, o + 2, none⟩ = some (.int .u64 x.ts)
  a3 : w.cell? ⟨b, o + 3, none⟩ = some (.int .u64 x.seq)
  a4 : w.cell? ⟨b, o + 4, none⟩ = some (.bool x.del)
  a5 : w.cell? ⟨b, o + 5, none⟩ = some (.string (B x.val))
theorem At6.held {w : World} {b o : Nat} {x : Cel} (h : At6 w b o x) : w.cell? ⟨b, o, none⟩ = some (.string (B x.row)) ∧ w.cell? ⟨b, o + 1, none⟩ = some (.string (B x.col)) ∧ w.cell? ⟨b, o + 2, none⟩ = some (.int .u64 x.ts) ∧ w.cell? ⟨b, o + 3, none⟩ = some (.int .u64 x.seq) ∧ w.cell? ⟨b, o + 4, none⟩ = some (.bool x.del) ∧ w.cell? ⟨b, o + 5, none⟩ = some (.string (B x.val)) :=
  ⟨h.a0, h.a1, h.a2, h.a3, h.a4, h.a5⟩
theorem At6.old {w w' : World} {b o : Nat} {x : Cel} (h : At6 w b o x) (k : Old w w') : At6 w' b o x := by
  have hb : b < w.heap.size := by
    have h0 := h.a0
    rcases Nat.lt_or_ge b w.heap.size with h1 | h1
    · exact h1
    · simp [World.cell?, Array.getElem?_eq_none h1] at h0
  obtain ⟨a0, a1, a2, a3, a4, a5⟩ := h
  constructor <;> (rw [kept_cell k _ _ hb]; assumption)
def flatC (l : List Cel) : List Value := l.flatMap fun x => (cells x).toList
theorem flatC_len (l : List Cel) : (flatC l).length = l.length * 6 := by
  induction l with
  | nil => rfl
  | cons x l ih =>
    rw [show flatC (x :: l) = (cells x).toList ++ flatC l from rfl, List.length_append, ih]
    simp; omega
theorem flatC_app (l m : List Cel) : flatC (l ++ m) = flatC l ++ flatC m := by simp [flatC]
theorem flatC_at (l : List Cel) (i j : Nat) (x : Cel) (h : l[i]? = some x) (hj : j < 6) : (flatC l)[i * 6 + j]? = (cells x)[j]? := by
  induction l generalizing i with
  | nil => simp at h
  | cons y l ih =>
    rw [show flatC (y :: l) = (cells y).toList ++ flatC l from rfl]
    cases i with
    | zero =>
      simp only [List.getElem?_cons_zero, Option.some.injEq] at h
      subst h
      rw [List.getElem?_append_left (by simp; omega)]
      simp
    | succ i =>
      simp only [List.getElem?_cons_succ] at h
      rw [List.getElem?_append_right (by simp; omega), ← ih i h]
      congr 1
      simp
      omega
theorem flatC_one (l : List Cel) : ∀ u ∈ flatC l, u.oneCell' = true := by
  intro u hu
  obtain ⟨c, -, hc⟩ := List.mem_flatMap.1 hu
  simp at hc
  rcases hc with rfl | rfl | rfl | rfl | rfl | rfl <;> rfl
/-- Items lie here, one behind the other. -/
def CelsAt (w : World) (b off : Nat) (l : List Cel) : Prop := ∀ (i : Nat) (x : Cel), l[i]? = some x → At6 w b (off + i * 6) x
theorem CelsAt.old {w w' : World} {b off : Nat} {l : List Cel} (h : CelsAt w b off l) (k : Old w w') : CelsAt w' b off l := fun i x hx => (h i x hx).old k
theorem CelsAt.take_ {w : World} {b off : Nat} {l : List Cel} (h : CelsAt w b off l) (n : Nat) : CelsAt w b off (l.take n) := fun i x hc => h i x (by
  rw [List.getElem?_take] at hc
  split at hc
  · exact hc
  · cases hc)
theorem CelsAt.drop_ {w : World} {b off : Nat} {l : List Cel} (h : CelsAt w b off l) (n : Nat) : CelsAt w b (off + n * 6) (l.drop n) := fun i x hc => by
  rw [List.getElem?_drop] at hc
  have := h (n + i) x hc
  rwa [show off + n * 6 + i * 6 = off + (n + i) * 6 by omega]
theorem cels_news {w : World} {b off : Nat} {l : List Cel} (h : CelsAt w b off l) : ∀ j u, (flatC l)[j]? = some u → w.cell? ((⟨b, off, none⟩ : Addr).add j) = some u := by
  intro j u hu
  rw [Addr.add_lit]
  have hj : j < l.length * 6 := by rw [← flatC_len]; exact (List.getElem?_eq_some_iff.1 hu).1
  have hi : j / 6 < l.length := by omega
  have e := flatC_at l (j / 6) (j % 6) l[j / 6] (List.getElem?_eq_getElem hi) (by omega)
  rw [show j / 6 * 6 + j % 6 = j by omega, hu] at e
  have hx := (h (j / 6) _ (List.getElem?_eq_getElem hi)).held
  generalize l[j / 6] = c at *
  have e6 : j % 6 = 0 ∨ j % 6 = 1 ∨ j % 6 = 2 ∨ j % 6 = 3 ∨ j % 6 = 4 ∨ j % 6 = 5 := by omega
  obtain ⟨x0, x1, x2, x3, x4, x5⟩ := hx
  rcases e6 with g | g | g | g | g | g
  · rw [g] at e; rw [show off + j = off + j / 6 * 6 by omega, x0]; exact e.symm
  · rw [g] at e; rw [show off + j = off + j / 6 * 6 + 1 by omega, x1]; exact e.symm
  · rw [g] at e; rw [show off + j = off + j / 6 * 6 + 2 by omega, x2]; exact e.symm
  · rw [g] at e; rw [show off + j = off + j / 6 * 6 + 3 by omega, x3]; exact e.symm
  · rw [g] at e; rw [show off + j = off + j / 6 * 6 + 4 by omega, x4]; exact e.symm
  · rw [g] at e; rw [show off + j = off + j / 6 * 6 + 5 by omega, x5]; exact e.symm

/-- A slice that reads as these cells. -/
def Cels (w : World) (v : Value) (l : List Cel) : Prop := (v = .slice none 0 0 ∧ l = []) ∨ ∃ A cap, v = .slice (some A) l.length cap ∧ l.length ≤ cap ∧ (l ≠ [] → ∃ b off, A = ⟨b, off, none⟩ ∧ CelsAt w b off l)
theorem Cels.old {w w' : World} {v : Value} {l : List Cel} (h : Cels w v l) (o : Old w w') : Cels w' v l := by
  rcases h with h | ⟨A, cap, h1, h2, h3⟩
  · exact .inl h
  · refine .inr ⟨A, cap, h1, h2, fun hl => ?_⟩
    obtain ⟨b, off, e, k⟩ := h3 hl
    exact ⟨b, off, e, k.old o⟩
theorem Cels.form {w : World} {v : Value} {l : List Cel} (h : Cels w v l) : ∃ A cap, v = .slice A l.length cap ∧ l.length ≤ cap := by
  rcases h with ⟨rfl, rfl⟩ | ⟨A, cap, h1, h2, h3⟩
  · exact ⟨none, 0, rfl, Nat.le_refl _⟩
  · exact ⟨_, _, h1, h2⟩
theorem Cels.at_ {w : World} {A : Option Addr} {n cap : Nat} {l : List Cel} (h : Cels w (.slice A n cap) l) {i : Nat} {x : Cel} (hx : l[i]? = some x) : ∃ b off, A = some ⟨b, off, none⟩ ∧ At6 w b (off + i * 6) x := by
  rcases h with ⟨h1, rfl⟩ | ⟨A', cap', h1, h2, h3⟩
  · simp at hx
  · obtain ⟨b, off, rfl, k⟩ := h3 (by rintro rfl; simp at hx)
    injection h1 with e1 e2 e3
    exact ⟨b, off, e1, k i x hx⟩
/-- A slice of the call's own, of cells (of the code's type, or the reference's). -/
def OwnC (w : World) (base : Nat) (v : Value) (l : List Cel) : Prop := w.ownsRow base 31 6 v l.length (flatC l)
theorem OwnC.nil (w : World) (base : Nat) : OwnC w base (.slice none 0 0) [] := World.ownsRow_nil _ _ _ _
theorem OwnC.empty {w : World} {base g : Nat} (h : Bk w g 31 #[]) (hb : base ≤ g) : OwnC w base (.slice (some ⟨g, 0, none⟩) 0 0) [] :=
  ⟨rfl, .inr ⟨g, 0, #[], rfl, hb, h, Nat.le_refl _, by simp, rfl, rfl⟩⟩
theorem OwnC.old {w w' : World} {base : Nat} {v : Value} {l : List Cel} (h : OwnC w base v l) (k : Old w w') : OwnC w' base v l := by
  refine ⟨h.1, ?_⟩
  rcases h.2 with h1 | ⟨gg, cap, cur, hv, hb, hg, rest⟩
  · exact .inl h1
  · exact .inr ⟨gg, cap, cur, hv, hb, (k.block _ (Array.getElem?_eq_some_iff.1 hg).1).trans hg, rest⟩
theorem OwnC.cels {w : World} {base : Nat} {v : Value} {l : List Cel} (h : OwnC w base v l) : Cels w v l := by
  rcases h.2 with ⟨rfl, hn⟩ | ⟨g, cap, cur, hv, hb, hg, hnc, hcm, hcs, htake⟩
  · exact .inl ⟨rfl, List.eq_nil_of_length_eq_zero hn⟩
  · refine .inr ⟨⟨g, 0, none⟩, cap, hv, hnc, fun _ => ⟨g, 0, rfl, fun i c hc => ?_⟩⟩
    have hcell : ∀ j, j < 6 → w.cell? ⟨g, 0 + i * 6 + j, none⟩ = (cells c)[j]? := by
      intro j hj
      have h1 := flatC_at l i j c hc hj
      have h2 : ((cells c)[j]?).isSome := by simp; omega
      obtain ⟨u, hu⟩ := Option.isSome_iff_exists.1 h2
      rw [hu] at h1 ⊢
      have h3 := World.ownsRow.cells h (g := g) (by rw [hv]; rfl) _ _ h1
      rw [Addr.add_lit] at h3
      rw [Nat.zero_add] at h3 ⊢
      exact h3
    exact ⟨hcell 0 (by omega), hcell 1 (by omega), hcell 2 (by omega), hcell 3 (by omega), hcell 4 (by omega), hcell 5 (by omega)⟩
/-- append(v, x..) of cells: what comes of it. -/
theorem run_cels {W0 w : World} {v x : Value} {xs news : List Cel} (o : Old W0 w) (hown : OwnC w W0.heap.size v xs) (hx : Cels w x news) (hlen : (xs.length + news.length) * 72 ≤ 140737488355328) (ty : TypeId) :
    ∃ v' w', (Builtin.append_ #[22, 22] ty #[v, x]).run Try.prog w = .ok v' w' ∧ OwnC w' W0.heap.size v' (xs ++ news) ∧ Old W0 w' ∧ w.grownBy w' v.ownBlock ∧ (v'.ownBlock = v.ownBlock ∨ v'.ownBlock = some w.heap.size) := by
  obtain ⟨i0, hi, hz0, hz1, hz2⟩ := info_parts Try.infoCell
  rcases hx with ⟨rfl, rfl⟩ | ⟨A, cap, rfl, hc, hA⟩
  · refine ⟨v, w, run_append_owned_none (P := Try.prog) w W0.heap.size 22 ty 31 i0 6 Try.underlying22 hi v xs.length (flatC xs) hown, by rw [List.append_nil]; exact hown, o, ⟨rfl, rfl, rfl, Nat.le_refl _, fun _ _ _ => rfl⟩, .inl rfl⟩
  · have hnews : ∀ j u, (flatC news)[j]? = some u → w.cell? (A.add j) = some u := by
      intro j u hu
      have hne : news ≠ [] := by rintro rfl; simp [flatC] at hu
      obtain ⟨b, off, rfl, k⟩ := hA hne
      exact cels_news k j u hu
    obtain ⟨v', w', hr, h2, h3, -, h5⟩ := run_append_own_at (P := Try.prog) w W0.heap.size 22 ty 31 i0 (.agg zeroCell) 6 72 Try.underlying22 hi hz0 hz1 hz2 rfl (by decide) v xs.length (flatC xs) hown A news.length cap (flatC news) (flatC_len _) hnews (flatC_one _) (by unfold maxLen; omega) (by omega) o.size
    refine ⟨v', w', hr, ?_, o.trans ((Below.refl _ _).grown h3 o.size (fun k hk => (World.ownsRow.lt hown k hk).1)), h3, h5⟩
    unfold OwnC
    rw [flatC_app, List.length_append]
    exact h2
theorem wp_cels {ops : Array Oper} {rest : List Oper} {op : Oper} {a : Act} {Q : Exit → Act → World → Prop} {W0 w : World} (hgd : op.guard = none) (s x : Operand)
    (ho : op.op = .call { callee := .builtin .append, args := #[s, x], argTypes := #[22, 22] })
    (hW : Old W0 w) (v : Value) (xs news : List Cel) (hs : a.eval s = v) (hown : OwnC w W0.heap.size v xs) (xv : Value) (hx : a.eval x = xv) (hnews : Cels w xv news) (hlen : (xs.length + news.length) * 72 ≤ 140737488355328)
    (h : ∀ v' w', OwnC w' W0.heap.size v' (xs ++ news) → Old W0 w' → w.grownBy w' v.ownBlock → (v'.ownBlock = v.ownBlock ∨ v'.ownBlock = some w.heap.size) → wpList Try.prog ops Q rest (a.put op.dst v') w') : wpList Try.prog ops Q (op :: rest) a w := by
  obtain ⟨v', w', hr, h2, h3, h4, h5⟩ := run_cels hW hown hnews hlen op.type
  refine wpList_plain hgd fun K hK => ?_
  unfold Oper.wp execOp
  simp only [ho, resolve, invoke, builtin, Sem.run_bind, Sem.run_pure, Result.andThen_ok, List.map_toArray, List.map_cons, List.map_nil, hs, hx, hr]
  exact hK _ _ (h v' w' h2 h3 h4 h5)
theorem step_cels {ops : Array Oper} {op : Oper} {a : Act} {K : Act → World → Prop} {Q : Exit → Act → World → Prop} {E : Prop} {W0 w : World} (hgd : op.guard = none) (d : Option Nat) (hd : op.dst = d) (s x : Operand)
    (ho : op.op = .call { callee := .builtin .append, args := #[s, x], argTypes := #[22, 22] })
    (hW : Old W0 w) (v : Value) (xs news : List Cel) (hs : a.eval s = v) (hown : OwnC w W0.heap.size v xs) (xv : Value) (hx : a.eval x = xv) (hnews : Cels w xv news) (hlen : (xs.length + news.length) * 72 ≤ 140737488355328)
    (h : ∀ v' w', OwnC w' W0.heap.size v' (xs ++ news) → Old W0 w' → w.grownBy w' v.ownBlock → (v'.ownBlock = v.ownBlock ∨ v'.ownBlock = some w.heap.size) → K (a.put d v') w') :
    if Region.wanted op (yielded ops a.tmps) = true then Oper.wp Try.prog op a w K Q else E := by
  obtain ⟨v', w', hr, h2, h3, h4, h5⟩ := run_cels hW hown hnews hlen op.type
  have hw : Region.wanted op (yielded ops a.tmps) = true := by simp [Region.wanted, hgd]
  rw [if_pos hw]
  subst hd
  unfold Oper.wp execOp
  simp only [ho, resolve, invoke, builtin, Sem.run_bind, Sem.run_pure, Result.andThen_ok, List.map_toArray, List.map_cons, List.map_nil, hs, hx, hr]
  exact h v' w' h2 h3 h4 h5
/-- append(v, u) of one thing of one cell, of whatever type. -/
theorem run_one {W0 w : World} {v : Value} {vs : List Value} {n : Nat} (t e : TypeId) (z : Value) (by_ : Nat) (hby : by_ ≤ 100) (ht : Try.prog.underlying t = some (.slice e)) (hz1 : z.cells.size = 1) (hi : (Try.prog.info? e).map (fun i => (i.zero, i.size, i.bytes)) = some (some z, 1, by_))
    (o : Old W0 w) (hown : w.ownsRow W0.heap.size e 1 v n vs) (u : Value) (hu : u.oneCell' = true) (g c : Nat) (hg : Bk w g e #[u]) (hlen : n ≤ 1000000) (ty : TypeId) :
    ∃ v' w', (Builtin.append_ #[t, t] ty #[v, .slice (some ⟨g, 0, none⟩) 1 c]).run Try.prog w = .ok v' w' ∧ w'.ownsRow W0.heap.size e 1 v' (n + 1) (vs ++ [u]) ∧ Old W0 w' ∧ w.grownBy w' v.ownBlock ∧ (v'.ownBlock = v.ownBlock ∨ v'.ownBlock = some w.heap.size) := by
  obtain ⟨i0, hi, hz0, hz1', hz2⟩ := info_parts hi
  obtain ⟨v', w', hr, h2, h3, -, h5⟩ := run_append_own_at (P := Try.prog) w W0.heap.size t ty e i0 z 1 by_ ht hi hz0 hz1' hz2 hz1 (by decide) v n vs hown ⟨g, 0, none⟩ 1 c [u] rfl (by
    intro j x hx
    cases j with
    | zero =>
      simp at hx
      subst hx
      rw [Addr.add_lit]
      rw [hg.cell]
      rfl
    | succ j => simp at hx) (by intro x hx; rw [List.mem_singleton.1 hx]; exact hu) (by unfold maxLen; omega) (by have := Nat.mul_le_mul (show n + 1 ≤ 1000001 by omega) hby; omega) o.size
  exact ⟨v', w', hr, h2, o.trans ((Below.refl _ _).grown h3 o.size (fun k hk => (World.ownsRow.lt hown k hk).1)), h3, h5⟩
theorem wp_one {ops : Array Oper} {rest : List Oper} {op : Oper} {a : Act} {Q : Exit → Act → World → Prop} {W0 w : World} (hgd : op.guard = none) (s x : Operand) (t e : TypeId) (z : Value) (by_ : Nat) (hby : by_ ≤ 100) (ht : Try.prog.underlying t = some (.slice e)) (hz1 : z.cells.size = 1) (hi : (Try.prog.info? e).map (fun i => (i.zero, i.size, i.bytes)) = some (some z, 1, by_))
    (ho : op.op = .call { callee := .builtin .append, args := #[s, x], argTypes := #[t, t] })
    (hW : Old W0 w) (v : Value) (vs : List Value) (n : Nat) (hs : a.eval s = v) (hown : w.ownsRow W0.heap.size e 1 v n vs) (u : Value) (hu : u.oneCell' = true) (g c : Nat) (hx : a.eval x = .slice (some ⟨g, 0, none⟩) 1 c) (hg : Bk w g e #[u]) (hlen : n ≤ 1000000)
    (h : ∀ v' w', w'.ownsRow W0.heap.size e 1 v' (n + 1) (vs ++ [u]) → Old W0 w' → w.grownBy w' v.ownBlock → (v'.ownBlock = v.ownBlock ∨ v'.ownBlock = some w.heap.size) → wpList Try.prog ops Q rest (a.put op.dst v') w') : wpList Try.prog ops Q (op :: rest) a w := by
  obtain ⟨v', w', hr, h2, h3, h4, h5⟩ := run_one t e z by_ hby ht hz1 hi hW hown u hu g c hg hlen op.type
  refine wpList_plain hgd fun K hK => ?_
  unfold Oper.wp execOp
  simp only [ho, resolve, invoke, builtin, Sem.run_bind, Sem.run_pure, Result.andThen_ok, List.map_toArray, List.map_cons, List.map_nil, hs, hx, hr]
  exact hK _ _ (h v' w' h2 h3 h4 h5)
theorem step_one {ops : Array Oper} {op : Oper} {a : Act} {K : Act → World → Prop} {Q : Exit → Act → World → Prop} {E : Prop} {W0 w : World} (hgd : op.guard = none) (d : Option Nat) (hd : op.dst = d) (s x : Operand) (t e : TypeId) (z : Value) (by_ : Nat) (hby : by_ ≤ 100) (ht : Try.prog.underlying t = some (.slice e)) (hz1 : z.cells.size = 1) (hi : (Try.prog.info? e).map (fun i => (i.zero, i.size, i.bytes)) = some (some z, 1, by_))
    (ho : op.op = .call { callee := .builtin .append, args := #[s, x], argTypes := #[t, t] })
    (hW : Old W0 w) (v : Value) (vs : List Value) (n : Nat) (hs : a.eval s = v) (hown : w.ownsRow W0.heap.size e 1 v n vs) (u : Value) (hu : u.oneCell' = true) (g c : Nat) (hx : a.eval x = .slice (some ⟨g, 0, none⟩) 1 c) (hg : Bk w g e #[u]) (hlen : n ≤ 1000000)
    (h : ∀ v' w', w'.ownsRow W0.heap.size e 1 v' (n + 1) (vs ++ [u]) → Old W0 w' → w.grownBy w' v.ownBlock → (v'.ownBlock = v.ownBlock ∨ v'.ownBlock = some w.heap.size) → K (a.put d v') w') :
    if Region.wanted op (yielded ops a.tmps) = true then Oper.wp Try.prog op a w K Q else E := by
  obtain ⟨v', w', hr, h2, h3, h4, h5⟩ := run_one t e z by_ hby ht hz1 hi hW hown u hu g c hg hlen op.type
  have hw : Region.wanted op (yielded ops a.tmps) = true := by simp [Region.wanted, hgd]
  rw [if_pos hw]
  subst hd
  unfold Oper.wp execOp
  simp only [ho, resolve, invoke, builtin, Sem.run_bind, Sem.run_pure, Result.andThen_ok, List.map_toArray, List.map_cons, List.map_nil, hs, hx, hr]
  exact h v' w' h2 h3 h4 h5
theorem Try.infoSl : (Try.prog.info? 22).map (fun i => (i.zero, i.size, i.bytes)) = some (some (.slice none 0 0), 1, 24) := by kernel_rfl
theorem row_old {w w' : World} {base : Nat} {e : TypeId} {k n : Nat} {v : Value} {vs : List Value} (h : w.ownsRow base e k v n vs) (o : Old w w') : w'.ownsRow base e k v n vs := by
  refine ⟨h.1, ?_⟩
  rcases h.2 with h1 | ⟨gg, cap, cur, hv, hb, hg, rest⟩
  · exact .inl h1
  · exact .inr ⟨gg, cap, cur, hv, hb, (o.block _ (Array.getElem?_eq_some_iff.1 hg).1).trans hg, rest⟩
end Go.Proofs.Ythanenblcplbhaa
