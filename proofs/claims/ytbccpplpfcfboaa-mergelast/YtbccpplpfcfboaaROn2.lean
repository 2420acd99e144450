/-
  Own slices of items that are not nil: append, and one item written. Conditions: lengths as written.
-/
import Derived.Test.YtbccpplpfcfboaaRSrr
namespace Go.Proofs.Ytbccpplpfcfboaa
open Go.RowKit

/-- An own slice of items that is not nil. -/
def OwnN (e : TypeId) (w : World) (base : Nat) (v : Value) (l : List Itm) : Prop := OwnE e w base v l ∧ v ≠ .slice none 0 0
theorem OwnN.old {e : TypeId} {w w' : World} {base : Nat} {v : Value} {l : List Itm} (h : OwnN e w base v l) (k : Old w w') : OwnN e w' base v l := ⟨h.1.old k, h.2⟩
theorem OwnN.empty {e : TypeId} {w : World} {base g : Nat} (h : Bk w g e #[]) (hb : base ≤ g) : OwnN e w base (.slice (some ⟨g, 0, none⟩) 0 0) [] := ⟨OwnE.empty h hb, by simp⟩
theorem OwnN.form {e : TypeId} {w : World} {base : Nat} {v : Value} {l : List Itm} (h : OwnN e w base v l) : ∃ g cap r, v = .slice (some ⟨g, 0, none⟩) l.length cap ∧ base ≤ g ∧ l.length ≤ cap ∧ Bk w g e (flat l ++ r).toArray ∧ cap * 7 = l.length * 7 + r.length ∧ cap ≤ maxLen := by
  rcases h.1.2 with ⟨h1, -⟩ | ⟨g, cap, cur, hv, hb, hg, hnc, hcm, hcs, htake⟩
  · exact absurd h1 h.2
  · refine ⟨g, cap, cur.toList.drop (l.length * 7), hv, hb, hnc, ?_, ?_, hcm⟩
    · unfold Bk
      rw [← htake, List.take_append_drop]
      simpa using hg
    · simp; omega
theorem bk_at {e : TypeId} {w : World} {g : Nat} {l : List Itm} {r : List Value} (h : Bk w g e (flat l ++ r).toArray) {i : Nat} {x : Itm} (hx : l[i]? = some x) : At7 w g (i * 7) x := by
  have hi : i < l.length := (List.getElem?_eq_some_iff.1 hx).1
  have hl := flat_len l
  have k : ∀ j, j < 7 → w.cell? ⟨g, i * 7 + j, none⟩ = (icells x)[j]? := fun j hj => by
    rw [Bk.cell h, ← flat_at l i j x hx hj, List.getElem?_toArray, List.getElem?_append_left (by omega)]
  exact ⟨k 0 (by omega), k 1 (by omega), k 2 (by omega), k 3 (by omega), k 4 (by omega), k 5 (by omega), k 6 (by omega)⟩
theorem bk_its {e : TypeId} {w : World} {g : Nat} {l : List Itm} {r : List Value} (h : Bk w g e (flat l ++ r).toArray) : ItsAt w g 0 l := fun i x hx => by rw [Nat.zero_add]; exact bk_at h hx
theorem bk_put {e : TypeId} {w : World} {g : Nat} {l : List Itm} {r : List Value} (h : Bk w g e (flat l ++ r).toArray) {i : Nat} (hi : i < l.length) (x : Itm) : Bk (putI w g (i * 7) x) g e (flat (l.set i x) ++ r).toArray := by
  rw [flat_set l i x r hi]
  have := (((((((h.set_ (i * 7) (.string (B x.c.row))).set_ (i * 7 + 1) (.string (B x.c.col))).set_ (i * 7 + 2) (.int .u64 x.c.ts)).set_ (i * 7 + 3) (.int .u64 x.c.seq)).set_ (i * 7 + 4) (.bool x.c.del)).set_ (i * 7 + 5) (.string (B x.c.val))).set_ (i * 7 + 6) (.int .i64 x.pos))
  simpa [putI] using this
theorem own_mk {e : TypeId} {w : World} {base g cap : Nat} {l : List Itm} {r : List Value} (h : Bk w g e (flat l ++ r).toArray) (hb : base ≤ g) (hc : l.length ≤ cap) (hr : cap * 7 = l.length * 7 + r.length) (hm : cap ≤ maxLen) : OwnN e w base (.slice (some ⟨g, 0, none⟩) l.length cap) l :=
  ⟨⟨flat_len l, .inr ⟨g, cap, _, rfl, hb, h, hc, hm, by simp [flat_len]; omega, by simp [← flat_len]⟩⟩, by simp⟩
/-- append(v, x..) of items, v not nil. -/
theorem run_itsN {W0 w : World} {v x : Value} {xs news : List Itm} (t e : TypeId) (ht : Try.prog.underlying t = some (.slice e)) (hi : (Try.prog.info? e).map (fun i => (i.zero, i.size, i.bytes)) = some (some (.agg zeroItem), 7, 80)) (o : Old W0 w) (hown : OwnN e w W0.heap.size v xs) (hx : Itms w x news) (hlen : xs.length + news.length ≤ 100000) (ty : TypeId) :
    ∃ v' w', (Builtin.append_ #[t, t] ty #[v, x]).run Try.prog w = .ok v' w' ∧ OwnN e w' W0.heap.size v' (xs ++ news) ∧ Old W0 w' ∧ (∀ g t cs, Bk w g t cs → some g ≠ v.ownBlock → Bk w' g t cs) := by
  obtain ⟨i0, hi, hz0, hz1, hz2⟩ := info_parts hi
  rcases hx with ⟨rfl, rfl⟩ | ⟨A, cap, rfl, hc, hA⟩
  · refine ⟨v, w, run_append_owned_none (P := Try.prog) w W0.heap.size t ty e i0 7 ht hi v xs.length (flat xs) hown.1, by rw [List.append_nil]; exact hown, o, fun g t cs hb _ => hb⟩
  · have hnews : ∀ j u, (flat news)[j]? = some u → w.cell? (A.add j) = some u := by
      intro j u hu
      have hne : news ≠ [] := by rintro rfl; simp [flat] at hu
      obtain ⟨b, off, rfl, k⟩ := hA hne
      exact its_news k j u hu
    obtain ⟨v', w', hr, h2, h3, h4, -⟩ := run_append_own_at (P := Try.prog) w W0.heap.size t ty e i0 (.agg zeroItem) 7 80 ht hi hz0 hz1 hz2 rfl (by decide) v xs.length (flat xs) hown.1 A news.length cap (flat news) (flat_len _) hnews (flat_one _) (by unfold maxLen; omega) (by omega) o.size
    refine ⟨v', w', hr, ⟨?_, fun h => hown.2 (h4.1 h).1⟩, o.trans ((Below.refl _ _).grown h3 o.size (fun k hk => (World.ownsRow.lt hown.1 k hk).1)), fun g t cs hb hne => hb.grown h3 hne⟩
    unfold OwnE
    rw [flat_app, List.length_append]
    exact h2
theorem step_itsN {ops : Array Oper} {op : Oper} {a : Act} {K : Act → World → Prop} {Q : Exit → Act → World → Prop} {E : Prop} {W0 w : World} (hgd : op.guard = none) (d : Option Nat) (hd : op.dst = d) (s x : Operand) (t e : TypeId) (ht : Try.prog.underlying t = some (.slice e)) (hi : (Try.prog.info? e).map (fun i => (i.zero, i.size, i.bytes)) = some (some (.agg zeroItem), 7, 80))
    (ho : op.op = .call { callee := .builtin .append, args := #[s, x], argTypes := #[t, t] })
    (hW : Old W0 w) (v : Value) (xs news : List Itm) (hs : a.eval s = v) (hown : OwnN e w W0.heap.size v xs) (xv : Value) (hx : a.eval x = xv) (hnews : Itms w xv news) (hlen : xs.length + news.length ≤ 100000)
    (h : ∀ v' w', OwnN e w' W0.heap.size v' (xs ++ news) → Old W0 w' → (∀ g t cs, Bk w g t cs → some g ≠ v.ownBlock → Bk w' g t cs) → K (a.put d v') w') :
    if Region.wanted op (yielded ops a.tmps) = true then Oper.wp Try.prog op a w K Q else E := by
  obtain ⟨v', w', hr, h2, h3, h4⟩ := run_itsN t e ht hi hW hown hnews hlen op.type
  have hw : Region.wanted op (yielded ops a.tmps) = true := by simp [Region.wanted, hgd]
  rw [if_pos hw]
  subst hd
  unfold Oper.wp execOp
  simp only [ho, resolve, invoke, builtin, Sem.run_bind, Sem.run_pure, Result.andThen_ok, List.map_toArray, List.map_cons, List.map_nil, hs, hx, hr]
  exact h v' w' h2 h3 h4
/-- Two items that lie here, in two blocks. -/
theorem p2_old {w W W' : World} {g h o1 o2 : Nat} {x y : Itm} (k0 : Old w W ∧ W.cell? ⟨g, o1, none⟩ = some (.string (B x.c.row)) ∧ W.cell? ⟨g, o1 + 1, none⟩ = some (.string (B x.c.col)) ∧ W.cell? ⟨g, o1 + 2, none⟩ = some (.int .u64 x.c.ts) ∧ W.cell? ⟨g, o1 + 3, none⟩ = some (.int .u64 x.c.seq) ∧ W.cell? ⟨g, o1 + 4, none⟩ = some (.bool x.c.del) ∧ W.cell? ⟨g, o1 + 5, none⟩ = some (.string (B x.c.val)) ∧ W.cell? ⟨g, o1 + 6, none⟩ = some (.int .i64 x.pos) ∧ W.cell? ⟨h, o2, none⟩ = some (.string (B y.c.row)) ∧ W.cell? ⟨h, o2 + 1, none⟩ = some (.string (B y.c.col)) ∧ W.cell? ⟨h, o2 + 2, none⟩ = some (.int .u64 y.c.ts) ∧ W.cell? ⟨h, o2 + 3, none⟩ = some (.int .u64 y.c.seq) ∧ W.cell? ⟨h, o2 + 4, none⟩ = some (.bool y.c.del) ∧ W.cell? ⟨h, o2 + 5, none⟩ = some (.string (B y.c.val)) ∧ W.cell? ⟨h, o2 + 6, none⟩ = some (.int .i64 y.pos)) (k : Old W W') : Old w W' ∧ W'.cell? ⟨g, o1, none⟩ = some (.string (B x.c.row)) ∧ W'.cell? ⟨g, o1 + 1, none⟩ = some (.string (B x.c.col)) ∧ W'.cell? ⟨g, o1 + 2, none⟩ = some (.int .u64 x.c.ts) ∧ W'.cell? ⟨g, o1 + 3, none⟩ = some (.int .u64 x.c.seq) ∧ W'.cell? ⟨g, o1 + 4, none⟩ = some (.bool x.c.del) ∧ W'.cell? ⟨g, o1 + 5, none⟩ = some (.string (B x.c.val)) ∧ W'.cell? ⟨g, o1 + 6, none⟩ = some (.int .i64 x.pos) ∧ W'.cell? ⟨h, o2, none⟩ = some (.string (B y.c.row)) ∧ W'.cell? ⟨h, o2 + 1, none⟩ = some (.string (B y.c.col)) ∧ W'.cell? ⟨h, o2 + 2, none⟩ = some (.int .u64 y.c.ts) ∧ W'.cell? ⟨h, o2 + 3, none⟩ = some (.int .u64 y.c.seq) ∧ W'.cell? ⟨h, o2 + 4, none⟩ = some (.bool y.c.del) ∧ W'.cell? ⟨h, o2 + 5, none⟩ = some (.string (B y.c.val)) ∧ W'.cell? ⟨h, o2 + 6, none⟩ = some (.int .i64 y.pos) := by
  obtain ⟨h0, a0, a1, a2, a3, a4, a5, a6, b0, b1, b2, b3, b4, b5, b6⟩ := k0
  exact ⟨h0.tr k, cell_old a0 k, cell_old a1 k, cell_old a2 k, cell_old a3 k, cell_old a4 k, cell_old a5 k, cell_old a6 k, cell_old b0 k, cell_old b1 k, cell_old b2 k, cell_old b3 k, cell_old b4 k, cell_old b5 k, cell_old b6 k⟩
theorem p2_of {w : World} {g h o1 o2 : Nat} {x y : Itm} (k0 : At7 w g o1 x) (k : At7 w h o2 y) : Old w w ∧ w.cell? ⟨g, o1, none⟩ = some (.string (B x.c.row)) ∧ w.cell? ⟨g, o1 + 1, none⟩ = some (.string (B x.c.col)) ∧ w.cell? ⟨g, o1 + 2, none⟩ = some (.int .u64 x.c.ts) ∧ w.cell? ⟨g, o1 + 3, none⟩ = some (.int .u64 x.c.seq) ∧ w.cell? ⟨g, o1 + 4, none⟩ = some (.bool x.c.del) ∧ w.cell? ⟨g, o1 + 5, none⟩ = some (.string (B x.c.val)) ∧ w.cell? ⟨g, o1 + 6, none⟩ = some (.int .i64 x.pos) ∧ w.cell? ⟨h, o2, none⟩ = some (.string (B y.c.row)) ∧ w.cell? ⟨h, o2 + 1, none⟩ = some (.string (B y.c.col)) ∧ w.cell? ⟨h, o2 + 2, none⟩ = some (.int .u64 y.c.ts) ∧ w.cell? ⟨h, o2 + 3, none⟩ = some (.int .u64 y.c.seq) ∧ w.cell? ⟨h, o2 + 4, none⟩ = some (.bool y.c.del) ∧ w.cell? ⟨h, o2 + 5, none⟩ = some (.string (B y.c.val)) ∧ w.cell? ⟨h, o2 + 6, none⟩ = some (.int .i64 y.pos) := by
  obtain ⟨a0, a1, a2, a3, a4, a5, a6⟩ := k0.held
  obtain ⟨b0, b1, b2, b3, b4, b5, b6⟩ := k.held
  exact ⟨Old.re _, a0, a1, a2, a3, a4, a5, a6, b0, b1, b2, b3, b4, b5, b6⟩
end Go.Proofs.Ytbccpplpfcfboaa
