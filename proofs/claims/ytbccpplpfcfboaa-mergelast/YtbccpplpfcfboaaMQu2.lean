/-
  The queue of lists that wait: Less, Push. Conditions: lengths as written.
-/
import Derived.Test.YtbccpplpfcfboaaMQue
namespace Go.Proofs.Ytbccpplpfcfboaa
open Go.RowKit

set_option maxHeartbeats 4000000 in
theorem qless_any (w : World) (g cap : Nat) (l : List Wt) (r : List Value) (i j : Nat) (iv jv : Int) (hiv : iv = i) (hjv : jv = j) (a b : Wt) (hi : l[i]? = some a) (hj : l[j]? = some b) (hs : SegW w g l r) (hok : ∀ a ∈ l, Wok w a) :
    Calls Try.prog 90 #[.slice (some ⟨g, 0, none⟩) l.length cap, .int .i64 iv, .int .i64 jv] w fun e w' => e = .returned (.bool (decide (wcmp a b < 0))) ∧ Old w w' := by
  subst hiv hjv
  have i1 : i < l.length := (List.getElem?_eq_some_iff.1 hi).1
  have j1 : j < l.length := (List.getElem?_eq_some_iff.1 hj).1
  obtain ⟨a0, a1⟩ := hs.at_ hi
  obtain ⟨b0, b1⟩ := hs.at_ hj
  have HA := Lib.hid (hok a (List.mem_of_getElem? hi))
  have HB := Lib.hid (hok b (List.mem_of_getElem? hj))
  have e1 : (0 : Int) ≤ (i : Int) := by omega
  have e2 : (i : Int) < (l.length : Int) := by omega
  have e3 : (0 : Int) ≤ (j : Int) := by omega
  have e4 : (j : Int) < (l.length : Int) := by omega
  have hS : Old w w ∧ w.cell? ⟨g, i * 2, none⟩ = some a.v ∧ w.cell? ⟨g, i * 2 + 1, none⟩ = some (.int .i64 (a.i : Int)) ∧ w.cell? ⟨g, j * 2, none⟩ = some b.v ∧ w.cell? ⟨g, j * 2 + 1, none⟩ = some (.int .i64 (b.i : Int)) ∧ Wok w a ∧ Wok w b := ⟨Old.re _, a0, a1, b0, b1, HA.out, HB.out⟩
  clear a0 a1 b0 b1 hs hok hi hj HA HB
  go_enter Try.func90, Try.ntmps90
  go_upto_region 1 with (fail)
  go_region_held3 (fun W => Old w W ∧ W.cell? ⟨g, i * 2, none⟩ = some a.v ∧ W.cell? ⟨g, i * 2 + 1, none⟩ = some (.int .i64 (a.i : Int)) ∧ W.cell? ⟨g, j * 2, none⟩ = some b.v ∧ W.cell? ⟨g, j * 2 + 1, none⟩ = some (.int .i64 (b.i : Int)) ∧ Wok W a ∧ Wok W b) (first | exact q2_old hS (Old.re _).dr | assumption | exact q2_old (by assumption) (by assumption) | exact q2_old (by assumption) (old_alloc _ _))
    (first
      | (go_at_call 92; with_reducible refine (wagainst_any _ a b (q2_wa (by assumption)) (q2_wb (by assumption))).mono ?_; rintro e w1 ⟨rfl, h1b⟩))
  rename_i hHeld
  have o2 := hHeld.1
  clear hHeld hS
  go_wp2
  go_ret
  exact ⟨rfl, o2⟩

/-- The block in which a queue's lists lie. -/
def rowOf (w : World) (g : Nat) : Option Nat := (w.cell? ⟨g, 0, none⟩).bind Value.ownBlock
theorem rowOf_bk {w : World} {g : Nat} {t : TypeId} {v : Value} (h : Bk w g t #[v]) : rowOf w g = v.ownBlock := by
  unfold rowOf
  rw [h.cell 0]
  rfl
/-- What a step on a queue leaves: all blocks but the queue's own two; its lists then lie where they lay, or in a new block. -/
structure Kq (gq : Nat) (A Z : World) : Prop where
  size : A.heap.size ≤ Z.heap.size
  block : ∀ i, i < A.heap.size → i ≠ gq → rowOf A gq ≠ some i → Z.heap[i]? = A.heap[i]?
  row : ∀ k, rowOf Z gq = some k → k < A.heap.size → rowOf A gq = some k
theorem Kq.re (gq : Nat) (A : World) : Kq gq A A := ⟨Nat.le_refl _, fun _ _ _ _ => rfl, fun _ h _ => h⟩
theorem Kq.tr {gq : Nat} {A C Z : World} (h : Kq gq A C) (k : Kq gq C Z) : Kq gq A Z :=
  ⟨Nat.le_trans h.size k.size, fun i h0 h1 h2 => (k.block i (Nat.lt_of_lt_of_le h0 h.size) h1 fun e => h2 (h.row i e h0)).trans (h.block i h0 h1 h2), fun i e h0 => h.row i (k.row i e (Nat.lt_of_lt_of_le h0 h.size)) h0⟩
theorem Kq.of_old {gq : Nat} {A Z : World} (h : Old A Z) (hg : gq < A.heap.size) : Kq gq A Z :=
  ⟨h.size, fun i h0 _ _ => h.block i h0, fun k e _ => by
    unfold rowOf at e ⊢
    rwa [kept_cell h _ _ hg] at e⟩
theorem Kq.st {gq : Nat} {A Z : World} {t : TypeId} {v : Value} (h : Kq gq A Z) (hb : Bk Z gq t #[v]) (u : Value) (hu : u.ownBlock = v.ownBlock ∨ ∀ k, u.ownBlock = some k → A.heap.size ≤ k) : Kq gq A (Z.setCell ⟨gq, 0, none⟩ u) := by
  refine ⟨by simpa [World.setCell] using h.size, fun i h0 h1 h2 => (Below.heap_setCell Z ⟨gq, 0, none⟩ u i h1).trans (h.block i h0 h1 h2), fun k e h0 => ?_⟩
  have hb2 : Bk (Z.setCell ⟨gq, 0, none⟩ u) gq t #[u] := hb.set_ 0 u
  rw [rowOf_bk hb2] at e
  rcases hu with hu | hu
  · refine h.row k ?_ h0
    rw [rowOf_bk hb, ← hu]; exact e
  · have := hu k e
    omega
theorem Kq.stW {gq g : Nat} {A Z : World} (h : Kq gq A Z) (hr : rowOf A gq = some g) (hne : g ≠ gq) (o : Nat) (u : Value) : Kq gq A (Z.setCell ⟨g, o, none⟩ u) := by
  refine ⟨by simpa [World.setCell] using h.size, fun i h0 h1 h2 => (Below.heap_setCell Z ⟨g, o, none⟩ u i ?_).trans (h.block i h0 h1 h2), fun k e h0 => h.row k ?_ h0⟩
  · show i ≠ g
    rintro rfl
    exact h2 hr
  · unfold rowOf at e ⊢
    rwa [World.cell?_of_block (Below.heap_setCell Z ⟨g, o, none⟩ u gq hne.symm)] at e
theorem Kq.dr {gq : Nat} {A Z : World} (h : Kq gq A Z) : Kq gq A Z.drew := ⟨h.size, h.block, h.row⟩
theorem Kq.grown {gq : Nat} {A Z W : World} {t : TypeId} {v : Value} (h : Kq gq A Z) (hb : Bk Z gq t #[v]) (hv : rowOf A gq = v.ownBlock) (hne : some gq ≠ v.ownBlock) (hg : Z.grownBy W v.ownBlock) : Kq gq A W := by
  refine ⟨Nat.le_trans h.size hg.size, fun i h0 h1 h2 => (hg.block i (Nat.lt_of_lt_of_le h0 h.size) ?_).trans (h.block i h0 h1 h2), fun k e h0 => h.row k ?_ h0⟩
  · rw [← hv]; exact fun e => h2 e.symm
  · rw [rowOf_bk (hb.grown hg hne)] at e
    rw [rowOf_bk hb]; exact e
theorem Kq.bk {gq g : Nat} {A Z : World} {t : TypeId} {cs : Array Value} (k : Kq gq A Z) (h : Bk A g t cs) (h1 : g ≠ gq) (h2 : rowOf A gq ≠ some g) : Bk Z g t cs :=
  (k.block g h.lt h1 h2).trans h
theorem Try.infoW : (Try.prog.info? 97).map (fun i => (i.zero, i.size, i.bytes)) = some (some (.agg #[.slice none 0 0, .int .i64 0]), 2, 32) := by kernel_rfl
/-- append(q, x) of one list that waits. -/
theorem run_w {W0 w : World} {v : Value} {ws : List Wt} {a : Wt} {g c : Nat} (o : Old W0 w) (hown : w.ownsRow W0.heap.size 97 2 v ws.length (flatW ws)) (ha : a.v.oneCell' = true) (hg : Bk w g 97 (wcells a)) (hlen : ws.length ≤ 100000) (ty : TypeId) :
    ∃ v' w', (Builtin.append_ #[92, 92] ty #[v, .slice (some ⟨g, 0, none⟩) 1 c]).run Try.prog w = .ok v' w' ∧ w'.ownsRow W0.heap.size 97 2 v' (ws.length + 1) (flatW (ws ++ [a])) ∧ Old W0 w' ∧ w.grownBy w' v.ownBlock ∧ (v'.ownBlock = v.ownBlock ∨ v'.ownBlock = some w.heap.size) := by
  obtain ⟨i0, hi, hz0, hz1, hz2⟩ := info_parts Try.infoW
  obtain ⟨v', w', hr, h2, h3, -, h5⟩ := run_append_own_at (P := Try.prog) w W0.heap.size 92 ty 97 i0 (.agg #[.slice none 0 0, .int .i64 0]) 2 32 Try.underlying92 hi hz0 hz1 hz2 rfl (by decide) v ws.length (flatW ws) hown ⟨g, 0, none⟩ 1 c (flatW [a]) rfl (by
    intro j x hx
    rw [Addr.add_lit, Nat.zero_add, hg.cell]
    simpa [flatW] using hx) (by
    intro x hx
    simp [flatW] at hx
    rcases hx with rfl | rfl
    · exact ha
    · rfl) (by unfold maxLen; omega) (by omega) o.size
  refine ⟨v', w', hr, ?_, o.trans ((Below.refl _ _).grown h3 o.size (fun k hk => (World.ownsRow.lt hown k hk).1)), h3, h5⟩
  rw [flatW_app]
  exact h2
theorem run_assertW (W : World) (v : Value) (xt : TypeId) : (Instr.typeAssert (.iface 97 v) xt 97 false).run Try.prog W = .ok v W := by kernel_rfl
/-- append, whose run is known, as one step of a region that draws its order. -/
theorem step_ap {ops : Array Oper} {op : Oper} {a : Act} {K : Act → World → Prop} {Q : Exit → Act → World → Prop} {E : Prop} {w w' : World} (hgd : op.guard = none) (s x : Operand) (t : TypeId) (ho : op.op = .call { callee := .builtin .append, args := #[s, x], argTypes := #[t, t] }) (v u v' : Value) (hs : a.eval s = v) (hx : a.eval x = u)
    (hr : (Builtin.append_ #[t, t] op.type #[v, u]).run Try.prog w = .ok v' w') (h : K (a.put op.dst v') w') :
    if Region.wanted op (yielded ops a.tmps) = true then Oper.wp Try.prog op a w K Q else E := by
  have hw : Region.wanted op (yielded ops a.tmps) = true := by simp [Region.wanted, hgd]
  rw [if_pos hw]
  unfold Oper.wp execOp
  simp only [ho, resolve, invoke, builtin, Sem.run_bind, Sem.run_pure, Result.andThen_ok, List.map_toArray, List.map_cons, List.map_nil, hs, hx, hr]
  exact h
theorem step_w {ops : Array Oper} {op : Oper} {a : Act} {K : Act → World → Prop} {Q : Exit → Act → World → Prop} {E : Prop} {W0 w : World} (hgd : op.guard = none) (s x : Operand)
    (ho : op.op = .call { callee := .builtin .append, args := #[s, x], argTypes := #[92, 92] })
    (hW : Old W0 w) (v : Value) (ws : List Wt) (b : Wt) (g c : Nat) (hs : a.eval s = v) (hown : w.ownsRow W0.heap.size 97 2 v ws.length (flatW ws)) (hx : a.eval x = .slice (some ⟨g, 0, none⟩) 1 c) (hb : b.v.oneCell' = true) (hg : Bk w g 97 (wcells b)) (hlen : ws.length ≤ 100000)
    (h : ∀ v' w', w'.ownsRow W0.heap.size 97 2 v' (ws.length + 1) (flatW (ws ++ [b])) → Old W0 w' → w.grownBy w' v.ownBlock → (v'.ownBlock = v.ownBlock ∨ v'.ownBlock = some w.heap.size) → K (a.put op.dst v') w') :
    if Region.wanted op (yielded ops a.tmps) = true then Oper.wp Try.prog op a w K Q else E := by
  obtain ⟨v', w', hr, h2, h3, h4, h5⟩ := run_w hW hown hb hg hlen op.type
  exact step_ap hgd s x _ ho v _ v' hs hx hr (h v' w' h2 h3 h4 h5)
/-- A queue lies in memory: these lists wait, in this order. -/
structure Que (W0 : World) (gq : Nat) (ws : List Wt) (w : World) : Prop where
  ex : ∃ v, Bk w gq 92 #[v] ∧ w.ownsRow W0.heap.size 97 2 v ws.length (flatW ws)
  its : ∀ a ∈ ws, Wok W0 a
  low : W0.heap.size ≤ gq
  old : Old W0 w
theorem row_ne {w : World} {base n g : Nat} {e t : TypeId} {k : Nat} {v : Value} {xs : List Value} {cs : Array Value} (h : w.ownsRow base e k v n xs) (hb : Bk w g t cs) (hne : e ≠ t) : some g ≠ v.ownBlock := by
  intro q
  rcases h.2 with ⟨rfl, _⟩ | ⟨g', cap', cur, rfl, hbg, hgc, _⟩
  · cases q
  · have : g = g' := by simpa [Value.ownBlock] using q
    subst this
    rw [show w.heap[g]? = _ from hb] at hgc
    injection hgc with hgc
    injection hgc with _ hgc
    exact hne hgc.symm
theorem row_sl {w : World} {base k n : Nat} {e : TypeId} {v : Value} {xs : List Value} (h : w.ownsRow base e k v n xs) : ∃ A cap, v = .slice A n cap := by
  rcases h.2 with ⟨rfl, h0⟩ | ⟨g, cap, cur, rfl, _⟩
  · exact ⟨none, 0, by rw [h0]⟩
  · exact ⟨_, _, rfl⟩
theorem row_w_form {w : World} {base : Nat} {v : Value} {ws : List Wt} (h : w.ownsRow base 97 2 v ws.length (flatW ws)) : ∃ A cap, v = .slice A ws.length cap := by
  rcases h.2 with ⟨rfl, h0⟩ | ⟨g, cap, cur, rfl, _⟩
  · exact ⟨none, 0, by rw [h0]⟩
  · exact ⟨_, _, rfl⟩
theorem row_dr {w w' : World} {base n k : Nat} {e : TypeId} {v : Value} {xs : List Value} (h : w.ownsRow base e k v n xs) (o : Old w w') : w'.ownsRow base e k v n xs := by
  refine ⟨h.1, ?_⟩
  rcases h.2 with h1 | ⟨gg, cap, cur, hv, hb, hg, rest⟩
  · exact .inl h1
  · exact .inr ⟨gg, cap, cur, hv, hb, (o.block _ (Array.getElem?_eq_some_iff.1 hg).1).trans hg, rest⟩
/-- Room is stored in the queue's own cell. -/
theorem row_set {w : World} {base n k gq o : Nat} {e t : TypeId} {v u : Value} {xs : List Value} {cs : Array Value} (h : w.ownsRow base e k v n xs) (hb : Bk w gq t cs) (hne : e ≠ t) : (w.setCell ⟨gq, o, none⟩ u).ownsRow base e k v n xs := by
  refine ⟨h.1, ?_⟩
  rcases h.2 with h1 | ⟨gg, cap, cur, hv, hbb, hg, rest⟩
  · exact .inl h1
  · refine .inr ⟨gg, cap, cur, hv, hbb, (Below.heap_setCell w ⟨gq, o, none⟩ u gg ?_).trans hg, rest⟩
    show gg ≠ gq
    rintro rfl
    rw [show w.heap[gg]? = _ from hb] at hg
    injection hg with hg
    injection hg with _ hg
    exact hne hg.symm

set_option maxHeartbeats 4000000 in
theorem qpush_any (W0 w : World) (gq : Nat) (ws : List Wt) (a : Wt) (h : Que W0 gq ws w) (ha : Wok W0 a) (hl : ws.length ≤ 100000) :
    Calls Try.prog 95 #[.pointer (some ⟨gq, 0, none⟩), .iface 97 (wv a)] w fun e w' => (∃ u, e = .returned u) ∧ Que W0 gq (ws ++ [a]) w' ∧ Kq gq w w' := by
  obtain ⟨v, hb, hown⟩ := h.ex
  obtain ⟨A, cap, rfl⟩ := row_w_form hown
  have c0 := hb.cell 0
  have f0 := hb.fr 0
  simp only [List.getElem?_toArray, List.getElem?_cons_zero] at c0
  have hlt := hb.lt
  have hne : ¬ gq = w.heap.size := by omega
  have ho := h.old
  have hlow := h.low
  have HI := Lib.hid h.its
  have hone := ha.one
  have HA := Lib.hid ha
  clear h ha
  go_enter Try.func95, Try.ntmps95
  have hta := run_assertW
  go_upto_region 0 with (fail)
  go_region_law (refine step_w rfl (.tmp 7) (.tmp 10) rfl (W0 := W0) (ho.al (.cells (wcells a) 97)).dr _ ws a w.heap.size 1 (by simp [Act.eval]) (row_dr hown ((old_alloc _ _).dr)) (by simp [Act.eval]) hone (new_bk w 97 (wcells a)).drew hl ?_; intro v8 w8 n8 o8 g8 k8; obtain ⟨A8, cap8, rfl⟩ := row_sl n8; have B8 := ((hb.alloc (.cells (wcells a) 97)).drew).grown g8 (row_ne hown hb (by decide)); have c8 := B8.cell 0; have f8 := B8.fr 0; have K8 := Kq.grown (Kq.of_old (gq := gq) (old_alloc w (.cells (wcells a) 97)).dr hlt) ((hb.alloc (.cells (wcells a) 97)).drew) (rowOf_bk hb) (row_ne hown hb (by decide)) g8)
  all_goals
    refine bodyPost_end (results_none rfl _ _ _) rfl ⟨⟨_, rfl⟩, ⟨⟨_, B8.set_ 0 _, ?_⟩, fun b hb => ?_, hlow, o8.st (p := ⟨gq, 0, none⟩) hlow _⟩, K8.st B8 _ (k8.imp id fun q k e => by rw [q] at e; injection e with e; subst e; simp)⟩
    · have := row_set (gq := gq) (o := 0) (u := .slice A8 (ws.length + 1) cap8) n8 B8 (by decide)
      simpa using this
    · rcases List.mem_append.1 hb with hb | hb
      · exact HI.out b hb
      · rw [List.mem_singleton.1 hb]; exact HA.out
end Go.Proofs.Ytbccpplpfcfboaa
