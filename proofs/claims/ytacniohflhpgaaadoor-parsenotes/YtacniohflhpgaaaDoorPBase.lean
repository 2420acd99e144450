/-
  Cells and texts in memory, slices of the call's own, what the program's variables hold. No conditions but those written.
-/
import Derived.Test.YtacniohflhpgaaaDoorRows
import Derived.Test.YtacniohflhpgaaaDoorPMth
import Derived.WalkKit
import Derived.WalkSpells
import Derived.WalkLawsBesides
import Derived.Lib.Hide
import Derived.Lib.LaidTab
import Derived.Deep.RegionHeld3
import Derived.Deep.QuietTactic
import Derived.BigQuiet
import Derived.Deep.Light
import Derived.Deep.DeepCutAuto
import Derived.Deep.AppendLies
import Derived.Deep.RegionLaw
import Derived.Deep.RegionHeldLaw
namespace Go.Proofs.YtacniohflhpgaaaDoor
open Go.RowKit

/-- A text as a list of bytes. -/
abbrev B (l : List UInt8) : ByteArray := ⟨l.toArray⟩
abbrev cells (c : Cel) : Array Value := #[.string (B c.row), .string (B c.col), .int .u64 c.ts, .int .u64 c.seq, .bool c.del, .string (B c.val)]
abbrev cv (c : Cel) : Value := .agg (cells c)
/-- Below everywhere: old memory stays. -/
abbrev Old (w w' : World) : Prop := Below w.heap.size w w'
theorem old_alloc (w : World) (o : Obj) : Old w (w.alloc o) := (Below.refl _ _).alloc (Nat.le_refl _) _
theorem Old.al {w w1 : World} (h : Old w w1) (o : Obj) : Old w (w1.alloc o) := h.alloc h.size _
theorem Old.dr {w w1 : World} (h : Old w w1) : Old w w1.drew := h.drew
theorem Old.dn {w w1 : World} (h : Old w w1) (n : Nat) : Old w (w1.drewN n) := ⟨h.os, h.tape, h.output, h.size, h.block⟩
theorem Old.tr {w w1 w2 : World} (h : Old w w1) (k : Old w1 w2) : Old w w2 := h.trans (k.mono h.size)
theorem Old.st {w w1 : World} (h : Old w w1) {p : Addr} (hp : w.heap.size ≤ p.block) (u : Value) : Old w (w1.setCell p u) := h.setCell hp u
theorem Old.re (w : World) : Old w w := Below.refl _ _
theorem ret_bool {a b : Bool} (h : a = b) : Ending.returned (.bool a) = .returned (.bool b) := by rw [h]
theorem ret_int {k : IntKind} {a b : Int} (h : a = b) : Ending.returned (.int k a) = .returned (.int k b) := by rw [h]
/-- What lay below is read as it was. -/
theorem kept_cell {W w1 : World} (hb : Old W w1) (g o : Nat) (h : g < W.heap.size) : w1.cell? ⟨g, o, none⟩ = W.cell? ⟨g, o, none⟩ := hb.cell (p := ⟨g, o, none⟩) h
/-- Block g holds just these cells, of this type, none of them frozen. -/
def Bk (w : World) (g : Nat) (t : TypeId) (cs : Array Value) : Prop := w.heap[g]? = some (.cells cs t (0, 0))
theorem Bk.cell {w : World} {g : Nat} {t : TypeId} {cs : Array Value} (h : Bk w g t cs) (o : Nat) : w.cell? ⟨g, o, none⟩ = cs[o]? := cell_of_row w g o cs t (0, 0) h
theorem Bk.fr {w : World} {g : Nat} {t : TypeId} {cs : Array Value} (h : Bk w g t cs) (o : Nat) : w.frozen? ⟨g, o, none⟩ = false := by
  unfold Bk at h
  simp [World.frozen?, h]
theorem Bk.lt {w : World} {g : Nat} {t : TypeId} {cs : Array Value} (h : Bk w g t cs) : g < w.heap.size := by
  rcases Nat.lt_or_ge g w.heap.size with h1 | h1
  · exact h1
  · unfold Bk at h; rw [Array.getElem?_eq_none h1] at h; cases h
theorem Bk.far {w : World} {g : Nat} {t : TypeId} {cs : Array Value} (h : Bk w g t cs) {p : Addr} (hp : g ≠ p.block) (u : Value) : Bk (w.setCell p u) g t cs :=
  (Below.heap_setCell w p u g hp).trans h
theorem Bk.set_ {w : World} {g : Nat} {t : TypeId} {cs : Array Value} (h : Bk w g t cs) (o : Nat) (u : Value) : Bk (w.setCell ⟨g, o, none⟩ u) g t (cs.setIfInBounds o u) := by
  unfold Bk at *
  simp [World.setCell, Array.getElem?_modify, h]
theorem Bk.old {w w' : World} {g : Nat} {t : TypeId} {cs : Array Value} (h : Bk w g t cs) (hb : Old w w') : Bk w' g t cs := (hb.block g h.lt).trans h
theorem Bk.drew {w : World} {g : Nat} {t : TypeId} {cs : Array Value} (h : Bk w g t cs) : Bk w.drew g t cs := h
theorem Bk.alloc {w : World} {g : Nat} {t : TypeId} {cs : Array Value} (h : Bk w g t cs) (o : Obj) : Bk (w.alloc o) g t cs := h.old (old_alloc _ _)
theorem new_bk (w : World) (t : TypeId) (cs : Array Value) : Bk (w.alloc (.cells cs t)) w.heap.size t cs := heap_alloc_new w _
theorem new_bk1 (w : World) (o : Obj) (t : TypeId) (cs : Array Value) : Bk ((w.alloc o).alloc (.cells cs t)) (w.heap.size + 1) t cs := by
  have h := new_bk (w.alloc o) t cs
  simpa using h
theorem Bk.six {W : World} {g : Nat} {t : TypeId} {u0 u1 u2 u3 u4 u5 : Value} (h : Bk W g t #[u0, u1, u2, u3, u4, u5]) :
    W.cell? ⟨g, 0, none⟩ = some u0 ∧ W.cell? ⟨g, 1, none⟩ = some u1 ∧ W.cell? ⟨g, 2, none⟩ = some u2 ∧ W.cell? ⟨g, 3, none⟩ = some u3 ∧ W.cell? ⟨g, 4, none⟩ = some u4 ∧ W.cell? ⟨g, 5, none⟩ = some u5 := by
  refine ⟨?_, ?_, ?_, ?_, ?_, ?_⟩ <;> (rw [h.cell]; rfl)
theorem put6 {W : World} {g : Nat} {t : TypeId} {v0 v1 v2 v3 v4 v5 : Value} (h : Bk W g t #[v0, v1, v2, v3, v4, v5]) (u0 u1 u2 u3 u4 u5 : Value) :
    Bk ((((((W.setCell ⟨g, 0, none⟩ u0).setCell ⟨g, 1, none⟩ u1).setCell ⟨g, 2, none⟩ u2).setCell ⟨g, 3, none⟩ u3).setCell ⟨g, 4, none⟩ u4).setCell ⟨g, 5, none⟩ u5) g t #[u0, u1, u2, u3, u4, u5] :=
  ((((((h.set_ 0 _).set_ 1 _).set_ 2 _).set_ 3 _).set_ 4 _).set_ 5 _)
theorem old6 {w W : World} (h : Old w W) (u0 u1 u2 u3 u4 u5 : Value) :
    Old w ((((((W.setCell ⟨w.heap.size, 0, none⟩ u0).setCell ⟨w.heap.size, 1, none⟩ u1).setCell ⟨w.heap.size, 2, none⟩ u2).setCell ⟨w.heap.size, 3, none⟩ u3).setCell ⟨w.heap.size, 4, none⟩ u4).setCell ⟨w.heap.size, 5, none⟩ u5) :=
  ((((((h.st (Nat.le_refl _) _).st (Nat.le_refl _) _).st (Nat.le_refl _) _).st (Nat.le_refl _) _).st (Nat.le_refl _) _).st (Nat.le_refl _) _)
theorem add_B (a b : List UInt8) : B a ++ B b = B (a ++ b) := by
  apply ByteArray.ext
  simp [B]
abbrev zeroCell : Array Value := #[.string ⟨#[]⟩, .string ⟨#[]⟩, .int .u64 0, .int .u64 0, .bool false, .string ⟨#[]⟩]
theorem Bk.grown {w w' : World} {g : Nat} {t : TypeId} {cs : Array Value} {row : Option Nat} (h : Bk w g t cs) (hg : w.grownBy w' row) (hne : some g ≠ row) : Bk w' g t cs :=
  (hg.block g h.lt hne).trans h
/-- A cell that lies at an offset of a block. -/
structure At6 (w : World) (b o : Nat) (c : Cel) : Prop where
  held : w.cell? ⟨b, o, none⟩ = some (.string (B c.row)) ∧ w.cell? ⟨b, o + 1, none⟩ = some (.string (B c.col)) ∧ w.cell? ⟨b, o + 2, none⟩ = some (.int .u64 c.ts) ∧ w.cell? ⟨b, o + 3, none⟩ = some (.int .u64 c.seq) ∧ w.cell? ⟨b, o + 4, none⟩ = some (.bool c.del) ∧ w.cell? ⟨b, o + 5, none⟩ = some (.string (B c.val))
theorem cell_old {w W : World} {b o : Nat} {v : Value} (h : w.cell? ⟨b, o, none⟩ = some v) (k : Old w W) : W.cell? ⟨b, o, none⟩ = some v := by
  rw [kept_cell k b o (World.block_lt_of_cell? w ⟨b, o, none⟩ h)]; exact h
theorem At6.old {w W : World} {b o : Nat} {c : Cel} (h : At6 w b o c) (k : Old w W) : At6 W b o c := by
  obtain ⟨h0, h1, h2, h3, h4, h5⟩ := h.held
  exact ⟨cell_old h0 k, cell_old h1 k, cell_old h2 k, cell_old h3 k, cell_old h4 k, cell_old h5 k⟩
/-- Cells that lie one behind the other. -/
def CelsAt (w : World) (b off : Nat) (l : List Cel) : Prop := ∀ (i : Nat) (c : Cel), l[i]? = some c → At6 w b (off + i * 6) c
theorem CelsAt.at_ {w : World} {b off : Nat} {l : List Cel} (h : CelsAt w b off l) (i : Nat) (hi : i < l.length) : At6 w b (off + i * 6) l[i] := h i _ (List.getElem?_eq_getElem hi)
/-- A slice value that reads as these cells. -/
def Cels (w : World) (v : Value) (l : List Cel) : Prop := (l = [] ∧ ∃ A cap, v = .slice A 0 cap) ∨ (∃ b off cap, v = .slice (some ⟨b, off, none⟩) l.length cap ∧ CelsAt w b off l)
theorem CelsAt.old {w W : World} {b off : Nat} {l : List Cel} (h : CelsAt w b off l) (k : Old w W) : CelsAt W b off l := fun i c hc => (h i c hc).old k
theorem Cels.old {w W : World} {v : Value} {l : List Cel} (h : Cels w v l) (k : Old w W) : Cels W v l := by
  rcases h with h | ⟨b, off, cap, rfl, h⟩
  · exact .inl h
  · exact .inr ⟨b, off, cap, rfl, h.old k⟩
theorem Tryd.infoCell : (Tryd.prog.info? 33).map (fun i => (i.zero, i.size, i.bytes)) = some (some (.agg zeroCell), 6, 72) := by kernel_rfl
/-- Cells, as memory has them. -/
def flat (l : List Cel) : List Value := l.flatMap fun c => (cells c).toList
theorem flat_len (l : List Cel) : (flat l).length = l.length * 6 := by
  induction l with
  | nil => rfl
  | cons c l ih => simp only [flat, List.flatMap_cons, List.length_append, List.length_cons] at *; rw [ih]; simp; omega
theorem flat_snoc (l : List Cel) (c : Cel) : flat (l ++ [c]) = flat l ++ (cells c).toList := by simp [flat]
theorem flat_at (l : List Cel) (i j : Nat) (c : Cel) (h : l[i]? = some c) (hj : j < 6) : (flat l)[i * 6 + j]? = (cells c).toList[j]? := by
  induction l generalizing i with
  | nil => simp at h
  | cons d l ih =>
    have e : flat (d :: l) = (cells d).toList ++ flat l := by simp [flat]
    rw [e]
    cases i with
    | zero =>
      simp at h
      subst h
      rw [List.getElem?_append_left (by simp; omega)]
      simp
    | succ i =>
      rw [List.getElem?_append_right (by simp; omega)]
      have := ih i (by simpa using h)
      rw [← this]
      congr 1
      simp; omega
/-- A slice of the call's own that holds just these cells. -/
def OwnC (w : World) (base : Nat) (v : Value) (l : List Cel) : Prop := w.ownsRow base 33 6 v l.length (flat l)
theorem OwnC.nil (w : World) (base : Nat) : OwnC w base (.slice none 0 0) [] := World.ownsRow_nil _ _ _ _
theorem OwnC.cels {w : World} {base : Nat} {v : Value} {l : List Cel} (h : OwnC w base v l) : Cels w v l := by
  rcases h.2 with ⟨rfl, hn⟩ | ⟨g, cap, cur, hv, hb, hg, hnc, hcm, hcs, htake⟩
  · exact .inl ⟨List.eq_nil_of_length_eq_zero hn, none, 0, rfl⟩
  · refine .inr ⟨g, 0, cap, hv, fun i c hc => ?_⟩
    have hcell : ∀ j, j < 6 → w.cell? ⟨g, 0 + i * 6 + j, none⟩ = (cells c).toList[j]? := by
      intro j hj
      have h1 := flat_at l i j c hc hj
      have h2 : ((cells c).toList[j]?).isSome := by simp; omega
      obtain ⟨u, hu⟩ := Option.isSome_iff_exists.1 h2
      rw [hu] at h1 ⊢
      have h3 := World.ownsRow.cells h (g := g) (by rw [hv]; rfl) _ _ h1
      rw [Addr.add_lit] at h3
      rw [Nat.zero_add] at h3 ⊢
      exact h3
    exact ⟨hcell 0 (by omega), hcell 1 (by omega), hcell 2 (by omega), hcell 3 (by omega), hcell 4 (by omega), hcell 5 (by omega)⟩
theorem OwnC.far {w : World} {base : Nat} {v : Value} {l : List Cel} (h : OwnC w base v l) {g : Nat} (hg : g < base) (o : Nat) (u : Value) : OwnC (w.setCell ⟨g, o, none⟩ u) base v l := by
  have hb : w.grownBy (w.setCell ⟨g, o, none⟩ u) (some g) := ⟨rfl, rfl, rfl, by simp [World.setCell], fun i _ hne => Below.heap_setCell w ⟨g, o, none⟩ u i (by rintro rfl; exact hne rfl)⟩
  refine World.ownsRow.kept (row := some g) h hb (.inr ?_)
  intro e
  have := (World.ownsRow.lt h g e).1
  omega
theorem OwnC.not {w : World} {base : Nat} {v : Value} {l : List Cel} (h : OwnC w base v l) {g : Nat} (hg : g < base) : some g ≠ v.ownBlock := by
  intro e
  have := (World.ownsRow.lt h g e.symm).1
  omega
theorem OwnC.old {w w' : World} {base : Nat} {v : Value} {l : List Cel} (h : OwnC w base v l) (k : Old w w') : OwnC w' base v l := by
  refine ⟨h.1, ?_⟩
  rcases h.2 with h1 | ⟨gg, cap, cur, hv, hb, hg, rest⟩
  · exact .inl h1
  · exact .inr ⟨gg, cap, cur, hv, hb, (k.block _ (Array.getElem?_eq_some_iff.1 hg).1).trans hg, rest⟩
theorem OwnC.form {w : World} {base : Nat} {v : Value} {l : List Cel} (h : OwnC w base v l) : ∃ A n cap, v = .slice A n cap := by
  rcases h.2 with ⟨rfl, _⟩ | ⟨g', cap, cur, rfl, _⟩
  · exact ⟨_, _, _, rfl⟩
  · exact ⟨_, _, _, rfl⟩
/-- append(v, u), of whatever type: what comes of it. -/
theorem run_one {W0 w : World} {v : Value} {vs : List Value} {n : Nat} (t e : TypeId) (z : Value) (by_ : Nat) (hby : by_ ≤ 100) (ht : Tryd.prog.underlying t = some (.slice e)) (hz1 : z.cells.size = 1) (hi : (Tryd.prog.info? e).map (fun i => (i.zero, i.size, i.bytes)) = some (some z, 1, by_))
    (o : Old W0 w) (hown : w.ownsRow W0.heap.size e 1 v n vs) (u : Value) (hu : u.oneCell' = true) (g c : Nat) (hg : Bk w g e #[u]) (hlen : n ≤ 100000) (ty : TypeId) :
    ∃ v' w', (Builtin.append_ #[t, t] ty #[v, .slice (some ⟨g, 0, none⟩) 1 c]).run Tryd.prog w = .ok v' w' ∧ w'.ownsRow W0.heap.size e 1 v' (n + 1) (vs ++ [u]) ∧ Old W0 w' ∧ (∀ g t cs, Bk w g t cs → some g ≠ v.ownBlock → Bk w' g t cs) := by
  obtain ⟨i0, hi, hz0, hz1', hz2⟩ := info_parts hi
  obtain ⟨v', w', hr, h2, h3, -, -⟩ := run_append_own_at (P := Tryd.prog) w W0.heap.size t ty e i0 z 1 by_ ht hi hz0 hz1' hz2 hz1 (by decide) v n vs hown ⟨g, 0, none⟩ 1 c [u] rfl (by
    intro j x hx
    cases j with
    | zero =>
      simp at hx
      subst hx
      rw [Addr.add_lit]
      rw [hg.cell]
      rfl
    | succ j => simp at hx) (by intro x hx; rw [List.mem_singleton.1 hx]; exact hu) (by unfold maxLen; omega) (by have := Nat.mul_le_mul (show n + 1 ≤ 100001 by omega) hby; omega) o.size
  exact ⟨v', w', hr, h2, o.trans ((Below.refl _ _).grown h3 o.size (fun k hk => (World.ownsRow.lt hown k hk).1)), fun g t cs hb hne => hb.grown h3 hne⟩
theorem step_one {ops : Array Oper} {op : Oper} {a : Act} {K : Act → World → Prop} {Q : Exit → Act → World → Prop} {E : Prop} {W0 w : World} (hgd : op.guard = none) (d : Option Nat) (hd : op.dst = d) (s x : Operand) (t e : TypeId) (z : Value) (by_ : Nat) (hby : by_ ≤ 100) (ht : Tryd.prog.underlying t = some (.slice e)) (hz1 : z.cells.size = 1) (hi : (Tryd.prog.info? e).map (fun i => (i.zero, i.size, i.bytes)) = some (some z, 1, by_))
    (ho : op.op = .call { callee := .builtin .append, args := #[s, x], argTypes := #[t, t] })
    (hW : Old W0 w) (v : Value) (vs : List Value) (n : Nat) (hs : a.eval s = v) (hown : w.ownsRow W0.heap.size e 1 v n vs) (u : Value) (hu : u.oneCell' = true) (g c : Nat) (hx : a.eval x = .slice (some ⟨g, 0, none⟩) 1 c) (hg : Bk w g e #[u]) (hlen : n ≤ 100000)
    (h : ∀ v' w', w'.ownsRow W0.heap.size e 1 v' (n + 1) (vs ++ [u]) → Old W0 w' → (∀ g t cs, Bk w g t cs → some g ≠ v.ownBlock → Bk w' g t cs) → K (a.put d v') w') :
    if Region.wanted op (yielded ops a.tmps) = true then Oper.wp Tryd.prog op a w K Q else E := by
  obtain ⟨v', w', hr, h2, h3, h4⟩ := run_one t e z by_ hby ht hz1 hi hW hown u hu g c hg hlen op.type
  have hw : Region.wanted op (yielded ops a.tmps) = true := by simp [Region.wanted, hgd]
  rw [if_pos hw]
  subst hd
  unfold Oper.wp execOp
  simp only [ho, resolve, invoke, builtin, Sem.run_bind, Sem.run_pure, Result.andThen_ok, List.map_toArray, List.map_cons, List.map_nil, hs, hx, hr]
  exact h v' w' h2 h3 h4
theorem wp_one {ops : Array Oper} {rest : List Oper} {op : Oper} {a : Act} {Q : Exit → Act → World → Prop} {W0 w : World} (hgd : op.guard = none) (s x : Operand) (t e : TypeId) (z : Value) (by_ : Nat) (hby : by_ ≤ 100) (ht : Tryd.prog.underlying t = some (.slice e)) (hz1 : z.cells.size = 1) (hi : (Tryd.prog.info? e).map (fun i => (i.zero, i.size, i.bytes)) = some (some z, 1, by_))
    (ho : op.op = .call { callee := .builtin .append, args := #[s, x], argTypes := #[t, t] })
    (hW : Old W0 w) (v : Value) (vs : List Value) (n : Nat) (hs : a.eval s = v) (hown : w.ownsRow W0.heap.size e 1 v n vs) (u : Value) (hu : u.oneCell' = true) (g c : Nat) (hx : a.eval x = .slice (some ⟨g, 0, none⟩) 1 c) (hg : Bk w g e #[u]) (hlen : n ≤ 100000)
    (h : ∀ v' w', w'.ownsRow W0.heap.size e 1 v' (n + 1) (vs ++ [u]) → Old W0 w' → wpList Tryd.prog ops Q rest (a.put op.dst v') w') : wpList Tryd.prog ops Q (op :: rest) a w := by
  obtain ⟨v', w', hr, h2, h3, h4⟩ := run_one t e z by_ hby ht hz1 hi hW hown u hu g c hg hlen op.type
  refine wpList_plain hgd fun K hK => ?_
  unfold Oper.wp execOp
  simp only [ho, resolve, invoke, builtin, Sem.run_bind, Sem.run_pure, Result.andThen_ok, List.map_toArray, List.map_cons, List.map_nil, hs, hx, hr]
  exact hK _ _ (h v' w' h2 h3)
theorem row_old {w w' : World} {base : Nat} {e : TypeId} {k n : Nat} {v : Value} {vs : List Value} (h : w.ownsRow base e k v n vs) (o : Old w w') : w'.ownsRow base e k v n vs := by
  refine ⟨h.1, ?_⟩
  rcases h.2 with h1 | ⟨gg, cap, cur, hv, hb, hg, rest⟩
  · exact .inl h1
  · exact .inr ⟨gg, cap, cur, hv, hb, (o.block _ (Array.getElem?_eq_some_iff.1 hg).1).trans hg, rest⟩
/-- A slice of these cells, with its room. -/
def CelC (w : World) (v : Value) (l : List Cel) : Prop := ∃ A cap, v = .slice A l.length cap ∧ l.length ≤ cap ∧ (l ≠ [] → ∃ b off, A = some ⟨b, off, none⟩ ∧ CelsAt w b off l)
theorem CelC.cels {w : World} {v : Value} {l : List Cel} (h : CelC w v l) : Cels w v l := by
  obtain ⟨A, cap, rfl, -, h⟩ := h
  by_cases hl : l = []
  · subst hl; exact .inl ⟨rfl, A, cap, rfl⟩
  · obtain ⟨b, off, rfl, h2⟩ := h hl
    exact .inr ⟨b, off, cap, rfl, h2⟩
theorem CelC.old {w w' : World} {v : Value} {l : List Cel} (h : CelC w v l) (o : Old w w') : CelC w' v l := by
  obtain ⟨A, cap, rfl, h1, h⟩ := h
  refine ⟨A, cap, rfl, h1, fun hl => ?_⟩
  obtain ⟨b, off, e, h⟩ := h hl
  exact ⟨b, off, e, h.old o⟩
theorem Cels.room {w : World} {v : Value} {l : List Cel} (h : Cels w v l) (hc : ∃ A cap, v = .slice A l.length cap ∧ l.length ≤ cap) : CelC w v l := by
  obtain ⟨A, cap, rfl, hc⟩ := hc
  refine ⟨A, cap, rfl, hc, fun hl => ?_⟩
  rcases h with ⟨e, _⟩ | ⟨b, off, cap', e, h⟩
  · exact absurd e hl
  · injection e with e1 e2 e3
    exact ⟨b, off, e1, h⟩
theorem OwnC.room {w : World} {base : Nat} {v : Value} {l : List Cel} (h : OwnC w base v l) : CelC w v l := by
  refine h.cels.room ?_
  rcases h.2 with ⟨rfl, hn⟩ | ⟨g, cap, cur, hv, hb, hg, hnc, hcm, hcs, htake⟩
  · exact ⟨none, 0, by rw [hn], by omega⟩
  · exact ⟨_, cap, hv, hnc⟩
theorem CelsAt.take_ {w : World} {b off : Nat} {l : List Cel} (h : CelsAt w b off l) (n : Nat) : CelsAt w b off (l.take n) := fun i c hc => h i c (by
  rw [List.getElem?_take] at hc
  split at hc
  · exact hc
  · cases hc)
theorem CelsAt.drop_ {w : World} {b off : Nat} {l : List Cel} (h : CelsAt w b off l) (n : Nat) : CelsAt w b (off + n * 6) (l.drop n) := fun i c hc => by
  rw [List.getElem?_drop] at hc
  have := h (n + i) c hc
  rwa [show off + n * 6 + i * 6 = off + (n + i) * 6 by omega]
theorem own_empty {w : World} {base g : Nat} (h : Bk w g 33 #[]) (hb : base ≤ g) : OwnC w base (.slice (some ⟨g, 0, none⟩) 0 0) [] :=
  ⟨rfl, .inr ⟨g, 0, #[], rfl, hb, h, Nat.le_refl _, by simp, rfl, rfl⟩⟩
theorem flat_one (l : List Cel) : ∀ u ∈ flat l, u.oneCell' = true := by
  intro u hu
  obtain ⟨c, -, hc⟩ := List.mem_flatMap.1 hu
  simp at hc
  rcases hc with rfl | rfl | rfl | rfl | rfl | rfl <;> rfl
theorem cels_news {w : World} {b off : Nat} {l : List Cel} (h : CelsAt w b off l) : ∀ j u, (flat l)[j]? = some u → w.cell? ((⟨b, off, none⟩ : Addr).add j) = some u := by
  intro j u hu
  rw [Addr.add_lit]
  have hj : j < l.length * 6 := by rw [← flat_len]; exact (List.getElem?_eq_some_iff.1 hu).1
  have hi : j / 6 < l.length := by omega
  have e := flat_at l (j / 6) (j % 6) l[j / 6] (List.getElem?_eq_getElem hi) (by omega)
  rw [show j / 6 * 6 + j % 6 = j by omega, hu] at e
  have hx := (h.at_ (j / 6) hi).held
  generalize l[j / 6] = c at *
  have e6 : j % 6 = 0 ∨ j % 6 = 1 ∨ j % 6 = 2 ∨ j % 6 = 3 ∨ j % 6 = 4 ∨ j % 6 = 5 := by omega
  obtain ⟨x0, x1, x2, x3, x4, x5⟩ := hx
  rcases e6 with g | g | g | g | g | g
  · rw [g] at e; rw [show off + j = off + j / 6 * 6 by omega, x0]; exact e.symm
  · rw [g] at e; rw [show off + j = off + j / 6 * 6 + 1 by omega, x1]; exact e.symm
  · rw [g] at e; rw [show off + j = off + j / 6 * 6 + 2 by omega, x2]; exact e.symm
  · rw [g] at e; rw [show off + j = off + j / 6 * 6 + 3 by omega, x3]; exact e.symm
  · rw [g] at e; rw [show off + j = off + j / 6 * 6 + 4 by omega, x4]; exact e.symm
  · rw [g] at e; rw [show off + j = off + j / 6 * 6 + 5 by omega, x5]; exact e.symm
theorem flat_app (l m : List Cel) : flat (l ++ m) = flat l ++ flat m := by simp [flat]
/-- append(v, x..) of cells: what comes of it. -/
theorem run_cels {W0 w : World} {v : Value} {xs news : List Cel} (o : Old W0 w) (hown : OwnC w W0.heap.size v xs) (b off m c : Nat) (hm : m = news.length) (hnews : CelsAt w b off news) (hlen : xs.length + news.length ≤ 100000) (ty : TypeId) :
    ∃ v' w', (Builtin.append_ #[23, 23] ty #[v, .slice (some ⟨b, off, none⟩) m c]).run Tryd.prog w = .ok v' w' ∧ OwnC w' W0.heap.size v' (xs ++ news) ∧ Old W0 w' ∧ (∀ g t cs, Bk w g t cs → some g ≠ v.ownBlock → Bk w' g t cs) := by
  obtain ⟨i0, hi, hz0, hz1, hz2⟩ := info_parts Tryd.infoCell
  subst hm
  obtain ⟨v', w', hr, h2, h3, -, -⟩ := run_append_own_at (P := Tryd.prog) w W0.heap.size 23 ty 33 i0 (.agg zeroCell) 6 72 Tryd.underlying23 hi hz0 hz1 hz2 rfl (by decide) v xs.length (flat xs) hown ⟨b, off, none⟩ news.length c (flat news) (flat_len _) (cels_news hnews) (flat_one _) (by unfold maxLen; omega) (by omega) o.size
  refine ⟨v', w', hr, ?_, o.trans ((Below.refl _ _).grown h3 o.size (fun k hk => (World.ownsRow.lt hown k hk).1)), fun g t cs hb hne => hb.grown h3 hne⟩
  unfold OwnC
  rw [flat_app, List.length_append]
  exact h2
theorem wp_cels {ops : Array Oper} {rest : List Oper} {o : Oper} {a : Act} {Q : Exit → Act → World → Prop} {W0 w : World} (hgd : o.guard = none) (s x : Operand)
    (ho : o.op = .call { callee := .builtin .append, args := #[s, x], argTypes := #[23, 23] })
    (hW : Old W0 w) (v : Value) (xs news : List Cel) (hs : a.eval s = v) (hown : OwnC w W0.heap.size v xs) (b off m c : Nat) (hx : a.eval x = .slice (some ⟨b, off, none⟩) m c) (hm : m = news.length) (hnews : CelsAt w b off news) (hlen : xs.length + news.length ≤ 100000)
    (h : ∀ v' w', OwnC w' W0.heap.size v' (xs ++ news) → Old W0 w' → wpList Tryd.prog ops Q rest (a.put o.dst v') w') : wpList Tryd.prog ops Q (o :: rest) a w := by
  obtain ⟨v', w', hr, h2, h3, h4⟩ := run_cels hW hown b off m c hm hnews hlen o.type
  refine wpList_plain hgd fun K hK => ?_
  unfold Oper.wp execOp
  simp only [ho, resolve, invoke, builtin, Sem.run_bind, Sem.run_pure, Result.andThen_ok, List.map_toArray, List.map_cons, List.map_nil, hs, hx, hr]
  exact hK _ _ (h v' w' h2 h3)
theorem OwnC.form2 {w : World} {base : Nat} {v : Value} {l : List Cel} (h : OwnC w base v l) : ∃ A cap, v = .slice A l.length cap := by
  rcases h.2 with ⟨rfl, h0⟩ | ⟨g', cap, cur, rfl, _⟩
  · exact ⟨none, 0, by rw [h0]⟩
  · exact ⟨_, _, rfl⟩
theorem cels_one {w : World} {g : Nat} {c : Cel} (h : Bk w g 33 (cells c)) : CelsAt w g 0 [c] := fun i d hd => by
  cases i with
  | zero =>
    simp at hd
    subst hd
    exact ⟨h.cell 0, h.cell 1, h.cell 2, h.cell 3, h.cell 4, h.cell 5⟩
  | succ i => simp at hd
/-- append(v, x..) of cells: what comes of it. -/
theorem run_celsO {W0 w : World} {v x : Value} {xs news : List Cel} {base : Nat} (o : Old W0 w) (hown : OwnC w W0.heap.size v xs) (hx : OwnC w base x news) (hlen : xs.length + news.length ≤ 100000) (ty : TypeId) :
    ∃ v' w', (Builtin.append_ #[23, 23] ty #[v, x]).run Tryd.prog w = .ok v' w' ∧ OwnC w' W0.heap.size v' (xs ++ news) ∧ Old W0 w' ∧ (∀ g t cs, Bk w g t cs → some g ≠ v.ownBlock → Bk w' g t cs) := by
  obtain ⟨i0, hi, hz0, hz1, hz2⟩ := info_parts Tryd.infoCell
  have hc := hx.cels
  rcases hx.2 with ⟨rfl, h0⟩ | ⟨g, cap, cur, rfl, _⟩
  · have hn : news = [] := List.eq_nil_of_length_eq_zero h0
    subst hn
    refine ⟨v, w, run_append_owned_none (P := Tryd.prog) w W0.heap.size 23 ty 33 i0 6 Tryd.underlying23 hi v xs.length (flat xs) hown, by rw [List.append_nil]; exact hown, o, fun g t cs hb _ => hb⟩
  · have hC : CelsAt w g 0 news := by
      rcases hc with ⟨rfl, -⟩ | ⟨b, off, cap', e, h⟩
      · intro i c hc; simp at hc
      · injection e with e1 e2 e3
        injection e1 with e1
        injection e1 with e4 e5
        subst e4 e5
        exact h
    obtain ⟨v', w', hr, h2, h3, -, -⟩ := run_append_own_at (P := Tryd.prog) w W0.heap.size 23 ty 33 i0 (.agg zeroCell) 6 72 Tryd.underlying23 hi hz0 hz1 hz2 rfl (by decide) v xs.length (flat xs) hown ⟨g, 0, none⟩ news.length cap (flat news) (flat_len _) (cels_news hC) (flat_one _) (by unfold maxLen; omega) (by omega) o.size
    refine ⟨v', w', hr, ?_, o.trans ((Below.refl _ _).grown h3 o.size (fun k hk => (World.ownsRow.lt hown k hk).1)), fun g t cs hb hne => hb.grown h3 hne⟩
    unfold OwnC
    rw [flat_app, List.length_append]
    exact h2
theorem wp_celsO {ops : Array Oper} {rest : List Oper} {op : Oper} {a : Act} {Q : Exit → Act → World → Prop} {W0 w : World} (hgd : op.guard = none) (s x : Operand)
    (ho : op.op = .call { callee := .builtin .append, args := #[s, x], argTypes := #[23, 23] })
    (hW : Old W0 w) (v : Value) (xs news : List Cel) (hs : a.eval s = v) (hown : OwnC w W0.heap.size v xs) (base : Nat) (xv : Value) (hx : a.eval x = xv) (hnews : OwnC w base xv news) (hlen : xs.length + news.length ≤ 100000)
    (h : ∀ v' w', OwnC w' W0.heap.size v' (xs ++ news) → Old W0 w' → wpList Tryd.prog ops Q rest (a.put op.dst v') w') : wpList Tryd.prog ops Q (op :: rest) a w := by
  obtain ⟨v', w', hr, h2, h3, h4⟩ := run_celsO hW hown hnews hlen op.type
  refine wpList_plain hgd fun K hK => ?_
  unfold Oper.wp execOp
  simp only [ho, resolve, invoke, builtin, Sem.run_bind, Sem.run_pure, Result.andThen_ok, List.map_toArray, List.map_cons, List.map_nil, hs, hx, hr]
  exact hK _ _ (h v' w' h2 h3)

end Go.Proofs.YtacniohflhpgaaaDoor
