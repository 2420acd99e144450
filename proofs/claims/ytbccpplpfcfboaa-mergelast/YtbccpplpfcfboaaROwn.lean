/-
  Slices of items: such as can be read, such as are the call's own, append of some. Conditions: lengths as written.
-/
import Derived.Test.YtbccpplpfcfboaaRCpt
import Derived.Deep.AppendLies
import Derived.Deep.RegionLaw
import Derived.Deep.RegionHeldLaw
import Derived.Laws.OwnMore
namespace Go.Proofs.Ytbccpplpfcfboaa
open Go.RowKit

theorem Bk.grown {w w' : World} {g : Nat} {t : TypeId} {cs : Array Value} {row : Option Nat} (h : Bk w g t cs) (hg : w.grownBy w' row) (hne : some g ≠ row) : Bk w' g t cs :=
  (hg.block g h.lt hne).trans h
/-- A slice that reads as these items. -/
def Itms (w : World) (v : Value) (l : List Itm) : Prop := (v = .slice none 0 0 ∧ l = []) ∨ ∃ A cap, v = .slice (some A) l.length cap ∧ l.length ≤ cap ∧ (l ≠ [] → ∃ b off, A = ⟨b, off, none⟩ ∧ ItsAt w b off l)
theorem Itms.old {w w' : World} {v : Value} {l : List Itm} (h : Itms w v l) (o : Old w w') : Itms w' v l := by
  rcases h with h | ⟨A, cap, h1, h2, h3⟩
  · exact .inl h
  · refine .inr ⟨A, cap, h1, h2, fun hl => ?_⟩
    obtain ⟨b, off, e, k⟩ := h3 hl
    exact ⟨b, off, e, k.old o⟩
theorem Itms.form {w : World} {v : Value} {l : List Itm} (h : Itms w v l) : ∃ A cap, v = .slice A l.length cap ∧ l.length ≤ cap := by
  rcases h with ⟨rfl, rfl⟩ | ⟨A, cap, h1, h2, h3⟩
  · exact ⟨none, 0, rfl, Nat.le_refl _⟩
  · exact ⟨_, _, h1, h2⟩
theorem Itms.at_ {w : World} {A : Option Addr} {n cap : Nat} {l : List Itm} (h : Itms w (.slice A n cap) l) {i : Nat} {x : Itm} (hx : l[i]? = some x) : ∃ b off, A = some ⟨b, off, none⟩ ∧ At7 w b (off + i * 7) x := by
  rcases h with ⟨h1, rfl⟩ | ⟨A', cap', h1, h2, h3⟩
  · simp at hx
  · obtain ⟨b, off, rfl, k⟩ := h3 (by rintro rfl; simp at hx)
    injection h1 with e1 e2 e3
    exact ⟨b, off, e1, k i x hx⟩
/-- A slice of the call's own, of items (of the code's type, or the reference's). -/
def OwnE (e : TypeId) (w : World) (base : Nat) (v : Value) (l : List Itm) : Prop := w.ownsRow base e 7 v l.length (flat l)
theorem OwnE.nil (e : TypeId) (w : World) (base : Nat) : OwnE e w base (.slice none 0 0) [] := World.ownsRow_nil _ _ _ _
theorem OwnE.empty {e : TypeId} {w : World} {base g : Nat} (h : Bk w g e #[]) (hb : base ≤ g) : OwnE e w base (.slice (some ⟨g, 0, none⟩) 0 0) [] :=
  ⟨rfl, .inr ⟨g, 0, #[], rfl, hb, h, Nat.le_refl _, by simp, rfl, rfl⟩⟩
theorem OwnE.old {e : TypeId} {w w' : World} {base : Nat} {v : Value} {l : List Itm} (h : OwnE e w base v l) (k : Old w w') : OwnE e w' base v l := by
  refine ⟨h.1, ?_⟩
  rcases h.2 with h1 | ⟨gg, cap, cur, hv, hb, hg, rest⟩
  · exact .inl h1
  · exact .inr ⟨gg, cap, cur, hv, hb, (k.block _ (Array.getElem?_eq_some_iff.1 hg).1).trans hg, rest⟩
theorem OwnE.its {e : TypeId} {w : World} {base : Nat} {v : Value} {l : List Itm} (h : OwnE e w base v l) : Itms w v l := by
  rcases h.2 with ⟨rfl, hn⟩ | ⟨g, cap, cur, hv, hb, hg, hnc, hcm, hcs, htake⟩
  · exact .inl ⟨rfl, List.eq_nil_of_length_eq_zero hn⟩
  · refine .inr ⟨⟨g, 0, none⟩, cap, hv, hnc, fun _ => ⟨g, 0, rfl, fun i c hc => ?_⟩⟩
    have hcell : ∀ j, j < 7 → w.cell? ⟨g, 0 + i * 7 + j, none⟩ = (icells c)[j]? := by
      intro j hj
      have h1 := flat_at l i j c hc hj
      have h2 : ((icells c)[j]?).isSome := by simp; omega
      obtain ⟨u, hu⟩ := Option.isSome_iff_exists.1 h2
      rw [hu] at h1 ⊢
      have h3 := World.ownsRow.cells h (g := g) (by rw [hv]; rfl) _ _ h1
      rw [Addr.add_lit] at h3
      rw [Nat.zero_add] at h3 ⊢
      exact h3
    exact ⟨hcell 0 (by omega), hcell 1 (by omega), hcell 2 (by omega), hcell 3 (by omega), hcell 4 (by omega), hcell 5 (by omega), hcell 6 (by omega)⟩
/-- Such a slice of the code's own items, as the sort wants it. -/
theorem OwnE.seg {w : World} {base : Nat} {v : Value} {l : List Itm} (h : OwnE 59 w base v l) : (v = .slice none 0 0 ∧ l = []) ∨ ∃ g cap r, v = .slice (some ⟨g, 0, none⟩) l.length cap ∧ base ≤ g ∧ l.length ≤ cap ∧ Seg w g l r := by
  rcases h.2 with ⟨rfl, hn⟩ | ⟨g, cap, cur, hv, hb, hg, hnc, hcm, hcs, htake⟩
  · exact .inl ⟨rfl, List.eq_nil_of_length_eq_zero hn⟩
  · refine .inr ⟨g, cap, cur.toList.drop (l.length * 7), hv, hb, hnc, ?_⟩
    unfold Seg Bk
    rw [← htake, List.take_append_drop]
    simpa using hg

/-- append(v, x..) of items: what comes of it. -/
theorem run_its {W0 w : World} {v x : Value} {xs news : List Itm} (t e : TypeId) (ht : Try.prog.underlying t = some (.slice e)) (hi : (Try.prog.info? e).map (fun i => (i.zero, i.size, i.bytes)) = some (some (.agg zeroItem), 7, 80)) (o : Old W0 w) (hown : OwnE e w W0.heap.size v xs) (hx : Itms w x news) (hlen : xs.length + news.length ≤ 100000) (ty : TypeId) :
    ∃ v' w', (Builtin.append_ #[t, t] ty #[v, x]).run Try.prog w = .ok v' w' ∧ OwnE e w' W0.heap.size v' (xs ++ news) ∧ Old W0 w' ∧ (∀ g t cs, Bk w g t cs → some g ≠ v.ownBlock → Bk w' g t cs) := by
  obtain ⟨i0, hi, hz0, hz1, hz2⟩ := info_parts hi
  rcases hx with ⟨rfl, rfl⟩ | ⟨A, cap, rfl, hc, hA⟩
  · refine ⟨v, w, run_append_owned_none (P := Try.prog) w W0.heap.size t ty e i0 7 ht hi v xs.length (flat xs) hown, by rw [List.append_nil]; exact hown, o, fun g t cs hb _ => hb⟩
  · have hnews : ∀ j u, (flat news)[j]? = some u → w.cell? (A.add j) = some u := by
      intro j u hu
      have hne : news ≠ [] := by rintro rfl; simp [flat] at hu
      obtain ⟨b, off, rfl, k⟩ := hA hne
      exact its_news k j u hu
    obtain ⟨v', w', hr, h2, h3, -, -⟩ := run_append_own_at (P := Try.prog) w W0.heap.size t ty e i0 (.agg zeroItem) 7 80 ht hi hz0 hz1 hz2 rfl (by decide) v xs.length (flat xs) hown A news.length cap (flat news) (flat_len _) hnews (flat_one _) (by unfold maxLen; omega) (by omega) o.size
    refine ⟨v', w', hr, ?_, o.trans ((Below.refl _ _).grown h3 o.size (fun k hk => (World.ownsRow.lt hown k hk).1)), fun g t cs hb hne => hb.grown h3 hne⟩
    unfold OwnE
    rw [flat_app, List.length_append]
    exact h2
theorem wp_its {ops : Array Oper} {rest : List Oper} {op : Oper} {a : Act} {Q : Exit → Act → World → Prop} {W0 w : World} (hgd : op.guard = none) (s x : Operand) (t e : TypeId) (ht : Try.prog.underlying t = some (.slice e)) (hi : (Try.prog.info? e).map (fun i => (i.zero, i.size, i.bytes)) = some (some (.agg zeroItem), 7, 80))
    (ho : op.op = .call { callee := .builtin .append, args := #[s, x], argTypes := #[t, t] })
    (hW : Old W0 w) (v : Value) (xs news : List Itm) (hs : a.eval s = v) (hown : OwnE e w W0.heap.size v xs) (xv : Value) (hx : a.eval x = xv) (hnews : Itms w xv news) (hlen : xs.length + news.length ≤ 100000)
    (h : ∀ v' w', OwnE e w' W0.heap.size v' (xs ++ news) → Old W0 w' → wpList Try.prog ops Q rest (a.put op.dst v') w') : wpList Try.prog ops Q (op :: rest) a w := by
  obtain ⟨v', w', hr, h2, h3, h4⟩ := run_its t e ht hi hW hown hnews hlen op.type
  refine wpList_plain hgd fun K hK => ?_
  unfold Oper.wp execOp
  simp only [ho, resolve, invoke, builtin, Sem.run_bind, Sem.run_pure, Result.andThen_ok, List.map_toArray, List.map_cons, List.map_nil, hs, hx, hr]
  exact hK _ _ (h v' w' h2 h3)
theorem step_its {ops : Array Oper} {op : Oper} {a : Act} {K : Act → World → Prop} {Q : Exit → Act → World → Prop} {E : Prop} {W0 w : World} (hgd : op.guard = none) (d : Option Nat) (hd : op.dst = d) (s x : Operand) (t e : TypeId) (ht : Try.prog.underlying t = some (.slice e)) (hi : (Try.prog.info? e).map (fun i => (i.zero, i.size, i.bytes)) = some (some (.agg zeroItem), 7, 80))
    (ho : op.op = .call { callee := .builtin .append, args := #[s, x], argTypes := #[t, t] })
    (hW : Old W0 w) (v : Value) (xs news : List Itm) (hs : a.eval s = v) (hown : OwnE e w W0.heap.size v xs) (xv : Value) (hx : a.eval x = xv) (hnews : Itms w xv news) (hlen : xs.length + news.length ≤ 100000)
    (h : ∀ v' w', OwnE e w' W0.heap.size v' (xs ++ news) → Old W0 w' → (∀ g t cs, Bk w g t cs → some g ≠ v.ownBlock → Bk w' g t cs) → K (a.put d v') w') :
    if Region.wanted op (yielded ops a.tmps) = true then Oper.wp Try.prog op a w K Q else E := by
  obtain ⟨v', w', hr, h2, h3, h4⟩ := run_its t e ht hi hW hown hnews hlen op.type
  have hw : Region.wanted op (yielded ops a.tmps) = true := by simp [Region.wanted, hgd]
  rw [if_pos hw]
  subst hd
  unfold Oper.wp execOp
  simp only [ho, resolve, invoke, builtin, Sem.run_bind, Sem.run_pure, Result.andThen_ok, List.map_toArray, List.map_cons, List.map_nil, hs, hx, hr]
  exact h v' w' h2 h3 h4
theorem Try.infoItemR : (Try.prog.info? 56).map (fun i => (i.zero, i.size, i.bytes)) = some (some (.agg zeroItem), 7, 80) := by kernel_rfl

set_option maxHeartbeats 1000000 in
theorem clone_any (w : World) (v : Value) (l : List Itm) (h : Itms w v l) (hl : l.length ≤ 50000) :
    Calls Try.prog 47 #[v] w fun e w' => ∃ u, e = .returned u ∧ Old w w' ∧ OwnE 59 w' w.heap.size u l := by
  rcases h with ⟨rfl, rfl⟩ | ⟨A, cap, rfl, hc, hA⟩
  · have hq := fun W => Lib.run_eql_slice_nil (P := Try.prog) W 32 59 none 0 0 0 0 Try.underlying32
    go_enter Try.func47, Try.ntmps47
    go_wp2
    go_ret
    exact ⟨_, rfl, Old.re _, OwnE.nil _ _ _⟩
  · have HI : Hid (Itms w (.slice (some A) l.length cap) l) := Lib.hid (.inr ⟨A, cap, rfl, hc, hA⟩)
    clear hA
    have hq := fun W => Lib.run_eql_slice_nil (P := Try.prog) W 32 59 (some A) l.length cap 0 0 Try.underlying32
    go_enter Try.func47, Try.ntmps47
    go_wp2_with (at_builtin; refine wp_its rfl (.tmp 5) (.tmp 6) 32 59 Try.underlying32 Try.infoItem rfl (W0 := w) (old_alloc _ _) _ [] l rfl (OwnE.empty (new_bk _ _ _) (Nat.le_refl _)) _ rfl (HI.out.old (old_alloc _ _)) (by simp; omega) ?_; intro v8 w8 n8 o8; refine Hid.out ?_)
    refine Lib.hid ?_
    go_wp2
    go_ret
    exact ⟨_, rfl, o8, by simpa using n8⟩
end Go.Proofs.Ytbccpplpfcfboaa
