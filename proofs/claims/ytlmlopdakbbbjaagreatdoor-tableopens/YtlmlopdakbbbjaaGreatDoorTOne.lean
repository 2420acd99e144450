/-
  append of one thing of one cell to a slice of the call's own; slices of cells with their room; parts of eight. Conditions: lengths as written.
-/
import Derived.Test.YtlmlopdakbbbjaaGreatDoorTMth
import Derived.Test.YtlmlopdakbbbjaaGreatDoorShb
import Derived.Deep.AppendLies
import Derived.Deep.RegionLaw
import Derived.Deep.RegionHeldLaw
namespace Go.Proofs.YtlmlopdakbbbjaaGreatDoor
open Go.RowKit

/-- append(v, u), of whatever type: what comes of it. -/
theorem run_one {W0 w : World} {v : Value} {vs : List Value} {n : Nat} (t e : TypeId) (z : Value) (by_ : Nat) (hby : by_ ≤ 100) (ht : Tryz.prog.underlying t = some (.slice e)) (hz1 : z.cells.size = 1) (hi : (Tryz.prog.info? e).map (fun i => (i.zero, i.size, i.bytes)) = some (some z, 1, by_))
    (o : Old W0 w) (hown : w.ownsRow W0.heap.size e 1 v n vs) (u : Value) (hu : u.oneCell' = true) (g c : Nat) (hg : Bk w g e #[u]) (hlen : n ≤ 100000) (ty : TypeId) :
    ∃ v' w', (Builtin.append_ #[t, t] ty #[v, .slice (some ⟨g, 0, none⟩) 1 c]).run Tryz.prog w = .ok v' w' ∧ w'.ownsRow W0.heap.size e 1 v' (n + 1) (vs ++ [u]) ∧ Old W0 w' ∧ (∀ g t cs, Bk w g t cs → some g ≠ v.ownBlock → Bk w' g t cs) := by
  obtain ⟨i0, hi, hz0, hz1', hz2⟩ := info_parts hi
  obtain ⟨v', w', hr, h2, h3, -, -⟩ := run_append_own_at (P := Tryz.prog) w W0.heap.size t ty e i0 z 1 by_ ht hi hz0 hz1' hz2 hz1 (by decide) v n vs hown ⟨g, 0, none⟩ 1 c [u] rfl (by
    intro j x hx
    cases j with
    | zero =>
      simp at hx
      subst hx
      rw [Addr.add_lit]
      rw [hg.cell]
      rfl
    | succ j => simp at hx) (by intro x hx; rw [List.mem_singleton.1 hx]; exact hu) (by unfold maxLen; omega) (by have := Nat.mul_le_mul (show n + 1 ≤ 100001 by omega) hby; omega) o.size
  exact ⟨v', w', hr, h2, o.trans ((Below.refl _ _).grown h3 o.size (fun k hk => (World.ownsRow.lt hown k hk).1)), fun g t cs hb hne => hb.grown h3 hne⟩
theorem step_one {ops : Array Oper} {op : Oper} {a : Act} {K : Act → World → Prop} {Q : Exit → Act → World → Prop} {E : Prop} {W0 w : World} (hgd : op.guard = none) (d : Option Nat) (hd : op.dst = d) (s x : Operand) (t e : TypeId) (z : Value) (by_ : Nat) (hby : by_ ≤ 100) (ht : Tryz.prog.underlying t = some (.slice e)) (hz1 : z.cells.size = 1) (hi : (Tryz.prog.info? e).map (fun i => (i.zero, i.size, i.bytes)) = some (some z, 1, by_))
    (ho : op.op = .call { callee := .builtin .append, args := #[s, x], argTypes := #[t, t] })
    (hW : Old W0 w) (v : Value) (vs : List Value) (n : Nat) (hs : a.eval s = v) (hown : w.ownsRow W0.heap.size e 1 v n vs) (u : Value) (hu : u.oneCell' = true) (g c : Nat) (hx : a.eval x = .slice (some ⟨g, 0, none⟩) 1 c) (hg : Bk w g e #[u]) (hlen : n ≤ 100000)
    (h : ∀ v' w', w'.ownsRow W0.heap.size e 1 v' (n + 1) (vs ++ [u]) → Old W0 w' → (∀ g t cs, Bk w g t cs → some g ≠ v.ownBlock → Bk w' g t cs) → K (a.put d v') w') :
    if Region.wanted op (yielded ops a.tmps) = true then Oper.wp Tryz.prog op a w K Q else E := by
  obtain ⟨v', w', hr, h2, h3, h4⟩ := run_one t e z by_ hby ht hz1 hi hW hown u hu g c hg hlen op.type
  have hw : Region.wanted op (yielded ops a.tmps) = true := by simp [Region.wanted, hgd]
  rw [if_pos hw]
  subst hd
  unfold Oper.wp execOp
  simp only [ho, resolve, invoke, builtin, Sem.run_bind, Sem.run_pure, Result.andThen_ok, List.map_toArray, List.map_cons, List.map_nil, hs, hx, hr]
  exact h v' w' h2 h3 h4
theorem wp_one {ops : Array Oper} {rest : List Oper} {op : Oper} {a : Act} {Q : Exit → Act → World → Prop} {W0 w : World} (hgd : op.guard = none) (s x : Operand) (t e : TypeId) (z : Value) (by_ : Nat) (hby : by_ ≤ 100) (ht : Tryz.prog.underlying t = some (.slice e)) (hz1 : z.cells.size = 1) (hi : (Tryz.prog.info? e).map (fun i => (i.zero, i.size, i.bytes)) = some (some z, 1, by_))
    (ho : op.op = .call { callee := .builtin .append, args := #[s, x], argTypes := #[t, t] })
    (hW : Old W0 w) (v : Value) (vs : List Value) (n : Nat) (hs : a.eval s = v) (hown : w.ownsRow W0.heap.size e 1 v n vs) (u : Value) (hu : u.oneCell' = true) (g c : Nat) (hx : a.eval x = .slice (some ⟨g, 0, none⟩) 1 c) (hg : Bk w g e #[u]) (hlen : n ≤ 100000)
    (h : ∀ v' w', w'.ownsRow W0.heap.size e 1 v' (n + 1) (vs ++ [u]) → Old W0 w' → wpList Tryz.prog ops Q rest (a.put op.dst v') w') : wpList Tryz.prog ops Q (op :: rest) a w := by
  obtain ⟨v', w', hr, h2, h3, h4⟩ := run_one t e z by_ hby ht hz1 hi hW hown u hu g c hg hlen op.type
  refine wpList_plain hgd fun K hK => ?_
  unfold Oper.wp execOp
  simp only [ho, resolve, invoke, builtin, Sem.run_bind, Sem.run_pure, Result.andThen_ok, List.map_toArray, List.map_cons, List.map_nil, hs, hx, hr]
  exact hK _ _ (h v' w' h2 h3)
theorem Tryz.infoSl : (Tryz.prog.info? 22).map (fun i => (i.zero, i.size, i.bytes)) = some (some (.slice none 0 0), 1, 24) := by kernel_rfl
theorem row_old {w w' : World} {base : Nat} {e : TypeId} {k n : Nat} {v : Value} {vs : List Value} (h : w.ownsRow base e k v n vs) (o : Old w w') : w'.ownsRow base e k v n vs := by
  refine ⟨h.1, ?_⟩
  rcases h.2 with h1 | ⟨gg, cap, cur, hv, hb, hg, rest⟩
  · exact .inl h1
  · exact .inr ⟨gg, cap, cur, hv, hb, (o.block _ (Array.getElem?_eq_some_iff.1 hg).1).trans hg, rest⟩

/-- A slice of these cells, with its room. -/
def CelC (w : World) (v : Value) (l : List Cel) : Prop := ∃ A cap, v = .slice A l.length cap ∧ l.length ≤ cap ∧ (l ≠ [] → ∃ b off, A = some ⟨b, off, none⟩ ∧ CelsAt w b off l)
theorem CelC.cels {w : World} {v : Value} {l : List Cel} (h : CelC w v l) : Cels w v l := by
  obtain ⟨A, cap, rfl, -, h⟩ := h
  by_cases hl : l = []
  · subst hl; exact .inl ⟨rfl, A, cap, rfl⟩
  · obtain ⟨b, off, rfl, h2⟩ := h hl
    exact .inr ⟨b, off, cap, rfl, h2⟩
theorem CelC.old {w w' : World} {v : Value} {l : List Cel} (h : CelC w v l) (o : Old w w') : CelC w' v l := by
  obtain ⟨A, cap, rfl, h1, h⟩ := h
  refine ⟨A, cap, rfl, h1, fun hl => ?_⟩
  obtain ⟨b, off, e, h⟩ := h hl
  exact ⟨b, off, e, h.old o⟩
theorem Cels.room {w : World} {v : Value} {l : List Cel} (h : Cels w v l) (hc : ∃ A cap, v = .slice A l.length cap ∧ l.length ≤ cap) : CelC w v l := by
  obtain ⟨A, cap, rfl, hc⟩ := hc
  refine ⟨A, cap, rfl, hc, fun hl => ?_⟩
  rcases h with ⟨e, _⟩ | ⟨b, off, cap', e, h⟩
  · exact absurd e hl
  · injection e with e1 e2 e3
    exact ⟨b, off, e1, h⟩
theorem OwnC.room {w : World} {base : Nat} {v : Value} {l : List Cel} (h : OwnC w base v l) : CelC w v l := by
  refine h.cels.room ?_
  rcases h.2 with ⟨rfl, hn⟩ | ⟨g, cap, cur, hv, hb, hg, hnc, hcm, hcs, htake⟩
  · exact ⟨none, 0, by rw [hn], by omega⟩
  · exact ⟨_, cap, hv, hnc⟩
theorem CelsAt.take_ {w : World} {b off : Nat} {l : List Cel} (h : CelsAt w b off l) (n : Nat) : CelsAt w b off (l.take n) := fun i c hc => h i c (by
  rw [List.getElem?_take] at hc
  split at hc
  · exact hc
  · cases hc)
theorem CelsAt.drop_ {w : World} {b off : Nat} {l : List Cel} (h : CelsAt w b off l) (n : Nat) : CelsAt w b (off + n * 6) (l.drop n) := fun i c hc => by
  rw [List.getElem?_drop] at hc
  have := h (n + i) c hc
  rwa [show off + n * 6 + i * 6 = off + (n + i) * 6 by omega]
/-- A slice of slices of cells. -/
def Prts (w : World) (base : Nat) (v : Value) (ps : List (List Cel)) : Prop :=
  ∃ vs : List Value, w.ownsRow base 22 1 v ps.length vs ∧ vs.length = ps.length ∧ ∀ (i : Nat) (p : List Cel), ps[i]? = some p → ∃ b off cap, vs[i]? = some (Value.slice (some ⟨b, off, none⟩) p.length cap) ∧ p.length ≤ cap ∧ CelsAt w b off p
theorem Prts.old {w w' : World} {base : Nat} {v : Value} {ps : List (List Cel)} (h : Prts w base v ps) (o : Old w w') : Prts w' base v ps := by
  obtain ⟨vs, h1, h2, h3⟩ := h
  refine ⟨vs, row_old h1 o, h2, fun i p hp => ?_⟩
  obtain ⟨b, off, cap, e, h4, h5⟩ := h3 i p hp
  exact ⟨b, off, cap, e, h4, h5.old o⟩
def sliceLen : Value → Nat
  | .slice _ n _ => n
  | _ => 0
end Go.Proofs.YtlmlopdakbbbjaaGreatDoor
