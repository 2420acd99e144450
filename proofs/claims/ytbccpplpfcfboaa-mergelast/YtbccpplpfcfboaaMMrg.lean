/-
  merged: what stays of lists that are in order. Conditions: lengths as written.
-/
import Derived.Test.YtbccpplpfcfboaaMNxt
import Derived.Test.YtbccpplpfcfboaaROn2
namespace Go.Proofs.Ytbccpplpfcfboaa
open Go.RowKit

def slLen : Option Value → Nat
  | some (.slice _ n _) => n
  | _ => 0
/-- How many items wait, read off the memory. -/
def totW (gq : Nat) (w : World) : Nat := match w.cell? ⟨gq, 0, none⟩ with
  | some (.slice (some a) n _) => ((List.range n).map fun i => slLen (w.cell? ⟨a.block, i * 2, none⟩)).sum
  | _ => 0
theorem totW_eq {W0 w : World} {gq : Nat} {ws : List Wt} (h : Que W0 gq ws w) : totW gq w = tot ws := by
  obtain ⟨v, h1, h2⟩ := h.ex
  unfold totW
  rw [h1.cell 0]
  by_cases hn : ws = []
  · subst hn
    rcases h2.2 with ⟨rfl, -⟩ | ⟨g, cap, cur, rfl, -⟩
    · rfl
    · rfl
  · obtain ⟨g, cap, r, rfl, -, -, -, hs, -⟩ := row_seg h2 hn
    show ((List.range ws.length).map fun i => slLen (w.cell? ⟨g, i * 2, none⟩)).sum = tot ws
    unfold tot
    congr 1
    refine List.ext_getElem (by simp) fun i p1 p2 => ?_
    simp only [List.getElem_map, List.getElem_range]
    have hi : i < ws.length := by simpa using p1
    have hx := (hs.at_ (List.getElem?_eq_getElem hi)).1
    rw [hx]
    obtain ⟨A, c, e, -⟩ := Itms.form (h.its ws[i] (List.getElem_mem hi))
    rw [e]
    rfl
/-- append(v, x..) of items: what comes of it, and where it lies. -/
theorem run_itsB {W0 w : World} {v x : Value} {xs news : List Itm} (t e : TypeId) (ht : Try.prog.underlying t = some (.slice e)) (hi : (Try.prog.info? e).map (fun i => (i.zero, i.size, i.bytes)) = some (some (.agg zeroItem), 7, 80)) (o : Old W0 w) (hown : OwnE e w W0.heap.size v xs) (hx : Itms w x news) (hlen : xs.length + news.length ≤ 100000) (ty : TypeId) :
    ∃ v' w', (Builtin.append_ #[t, t] ty #[v, x]).run Try.prog w = .ok v' w' ∧ OwnE e w' W0.heap.size v' (xs ++ news) ∧ Old W0 w' ∧ (∀ g t cs, Bk w g t cs → some g ≠ v.ownBlock → Bk w' g t cs) ∧ (∀ k, v'.ownBlock = some k → v.ownBlock = some k ∨ w.heap.size ≤ k) ∧ w.heap.size ≤ w'.heap.size := by
  obtain ⟨i0, hi, hz0, hz1, hz2⟩ := info_parts hi
  rcases hx with ⟨rfl, rfl⟩ | ⟨A, cap, rfl, hc, hA⟩
  · refine ⟨v, w, run_append_owned_none (P := Try.prog) w W0.heap.size t ty e i0 7 ht hi v xs.length (flat xs) hown, by rw [List.append_nil]; exact hown, o, fun g t cs hb _ => hb, fun k hk => .inl hk, Nat.le_refl _⟩
  · have hnews : ∀ j u, (flat news)[j]? = some u → w.cell? (A.add j) = some u := by
      intro j u hu
      have hne : news ≠ [] := by rintro rfl; simp [flat] at hu
      obtain ⟨b, off, rfl, k⟩ := hA hne
      exact its_news k j u hu
    obtain ⟨v', w', hr, h2, h3, -, h5⟩ := run_append_own_at (P := Try.prog) w W0.heap.size t ty e i0 (.agg zeroItem) 7 80 ht hi hz0 hz1 hz2 rfl (by decide) v xs.length (flat xs) hown A news.length cap (flat news) (flat_len _) hnews (flat_one _) (by unfold maxLen; omega) (by omega) o.size
    refine ⟨v', w', hr, ?_, o.trans ((Below.refl _ _).grown h3 o.size (fun k hk => (World.ownsRow.lt hown k hk).1)), fun g t cs hb hne => hb.grown h3 hne, fun k hk => ?_, h3.size⟩
    · unfold OwnE
      rw [flat_app, List.length_append]
      exact h2
    · rcases h5 with h5 | h5
      · exact .inl (by rw [← h5]; exact hk)
      · rw [h5] at hk
        injection hk with hk
        exact .inr (by omega)
theorem wp_itsB {ops : Array Oper} {rest : List Oper} {op : Oper} {a : Act} {Q : Exit → Act → World → Prop} {W0 w : World} (hgd : op.guard = none) (s x : Operand) (t e : TypeId) (ht : Try.prog.underlying t = some (.slice e)) (hi : (Try.prog.info? e).map (fun i => (i.zero, i.size, i.bytes)) = some (some (.agg zeroItem), 7, 80))
    (ho : op.op = .call { callee := .builtin .append, args := #[s, x], argTypes := #[t, t] })
    (hW : Old W0 w) (v : Value) (xs news : List Itm) (hs : a.eval s = v) (hown : OwnE e w W0.heap.size v xs) (xv : Value) (hx : a.eval x = xv) (hnews : Itms w xv news) (hlen : xs.length + news.length ≤ 100000)
    (h : ∀ v' w', OwnE e w' W0.heap.size v' (xs ++ news) → Old W0 w' → (∀ g t cs, Bk w g t cs → some g ≠ v.ownBlock → Bk w' g t cs) → (∀ k, v'.ownBlock = some k → v.ownBlock = some k ∨ w.heap.size ≤ k) → w.heap.size ≤ w'.heap.size → wpList Try.prog ops Q rest (a.put op.dst v') w') : wpList Try.prog ops Q (op :: rest) a w := by
  obtain ⟨v', w', hr, h2, h3, h4, h5, h6⟩ := run_itsB t e ht hi hW hown hnews hlen op.type
  refine wpList_plain hgd fun K hK => ?_
  unfold Oper.wp execOp
  simp only [ho, resolve, invoke, builtin, Sem.run_bind, Sem.run_pure, Result.andThen_ok, List.map_toArray, List.map_cons, List.map_nil, hs, hx, hr]
  exact hK _ _ (h v' w' h2 h3 h4 h5 h6)
/-- A queue's blocks stay where all blocks but items' stay. -/
theorem Que.frame {W0 A Z : World} {gq : Nat} {ws : List Wt} (h : Que W0 gq ws A) (o : Old W0 Z) (f : ∀ g t cs, Bk A g t cs → t ≠ 59 → Bk Z g t cs) : Que W0 gq ws Z := by
  obtain ⟨v, h1, h2⟩ := h.ex
  refine ⟨⟨v, f _ _ _ h1 (by decide), h2.1, ?_⟩, h.its, h.low, o⟩
  rcases h2.2 with q | ⟨gg, cap, cur, hv, hb, hg, rest⟩
  · exact .inl q
  · exact .inr ⟨gg, cap, cur, hv, hb, f _ _ _ hg (by decide), rest⟩
def okn : Bool → Nat
  | true => 1
  | false => 0
/-- merged between two rounds. -/
structure Mg (Ls : List (List Itm)) (w : World) (K : List Itm) (ws : List Wt) (kv : Value) (gi : Nat) (x : Itm) (ok : Bool) (wr : World) : Prop where
  od : Old w wr
  ow : OwnE 59 wr w.heap.size kv K
  bx : Bk wr gi 59 (icells x)
  lo : w.heap.size ≤ gi
  ne : gi ≠ w.heap.size
  nk : kv.ownBlock ≠ some gi
  hp : HeapF (fun k => ws[k]?) ws.length
  qu : Que w w.heap.size ws wr
  wl : ws.length ≤ 50000
  len : K.length + tot ws + okn ok ≤ Ls.flatten.length
  st : (ok = true ∧ ∃ ws0 top, MInv Ls ws0 K ∧ Nxt ws0 top ws ∧ x = top.x) ∨ (ok = false ∧ ws = [] ∧ MInv Ls [] K)
theorem Mg.old {Ls : List (List Itm)} {w wr W : World} {K : List Itm} {ws : List Wt} {kv : Value} {gi : Nat} {x : Itm} {ok : Bool} (h : Mg Ls w K ws kv gi x ok wr) (o : Old wr W) : Mg Ls w K ws kv gi x ok W :=
  ⟨h.od.tr o, h.ow.old o, h.bx.old o, h.lo, h.ne, h.nk, h.hp, h.qu.old_ o, h.wl, h.len, h.st⟩
theorem Kq.keep {W0 A Z : World} {gq g : Nat} {ws : List Wt} {t : TypeId} {cs : Array Value} (k : Kq gq A Z) (h : Que W0 gq ws A) (hb : Bk A g t cs) (ht : t ≠ 97) (hg : g ≠ gq) : Bk Z g t cs := by
  refine k.bk hb hg fun e => ?_
  obtain ⟨v, h1, h2⟩ := h.ex
  rw [rowOf_bk h1] at e
  exact row_ne h2 hb ht.symm e.symm
theorem OwnE.kq {W0 A Z : World} {gq base : Nat} {ws : List Wt} {v : Value} {l : List Itm} (o : OwnE 59 A base v l) (k : Kq gq A Z) (h : Que W0 gq ws A) : OwnE 59 Z base v l := by
  refine ⟨o.1, ?_⟩
  rcases o.2 with q | ⟨gg, cap, cur, hv, hb, hg, rest⟩
  · exact .inl q
  · refine .inr ⟨gg, cap, cur, hv, hb, k.keep h hg (by decide) ?_, rest⟩
    rintro rfl
    obtain ⟨v', h1, -⟩ := h.ex
    unfold Bk at h1
    rw [hg] at h1
    injection h1 with h1
    injection h1 with _ h1
    cases h1

theorem m2_old {w W W' : World} {g h o : Nat} {x y : Itm} (k0 : Old w W ∧ W.cell? ⟨g, o, none⟩ = some (.string (B x.c.row)) ∧ W.cell? ⟨g, o + 1, none⟩ = some (.string (B x.c.col)) ∧ W.cell? ⟨g, o + 2, none⟩ = some (.int .u64 x.c.ts) ∧ W.cell? ⟨g, o + 3, none⟩ = some (.int .u64 x.c.seq) ∧ W.cell? ⟨g, o + 4, none⟩ = some (.bool x.c.del) ∧ W.cell? ⟨g, o + 5, none⟩ = some (.string (B x.c.val)) ∧ W.cell? ⟨g, o + 6, none⟩ = some (.int .i64 x.pos) ∧ W.cell? ⟨h, 0, none⟩ = some (.string (B y.c.row)) ∧ W.cell? ⟨h, 1, none⟩ = some (.string (B y.c.col)) ∧ W.cell? ⟨h, 2, none⟩ = some (.int .u64 y.c.ts) ∧ W.cell? ⟨h, 3, none⟩ = some (.int .u64 y.c.seq) ∧ W.cell? ⟨h, 4, none⟩ = some (.bool y.c.del) ∧ W.cell? ⟨h, 5, none⟩ = some (.string (B y.c.val))) (k : Old W W') : Old w W' ∧ W'.cell? ⟨g, o, none⟩ = some (.string (B x.c.row)) ∧ W'.cell? ⟨g, o + 1, none⟩ = some (.string (B x.c.col)) ∧ W'.cell? ⟨g, o + 2, none⟩ = some (.int .u64 x.c.ts) ∧ W'.cell? ⟨g, o + 3, none⟩ = some (.int .u64 x.c.seq) ∧ W'.cell? ⟨g, o + 4, none⟩ = some (.bool x.c.del) ∧ W'.cell? ⟨g, o + 5, none⟩ = some (.string (B x.c.val)) ∧ W'.cell? ⟨g, o + 6, none⟩ = some (.int .i64 x.pos) ∧ W'.cell? ⟨h, 0, none⟩ = some (.string (B y.c.row)) ∧ W'.cell? ⟨h, 1, none⟩ = some (.string (B y.c.col)) ∧ W'.cell? ⟨h, 2, none⟩ = some (.int .u64 y.c.ts) ∧ W'.cell? ⟨h, 3, none⟩ = some (.int .u64 y.c.seq) ∧ W'.cell? ⟨h, 4, none⟩ = some (.bool y.c.del) ∧ W'.cell? ⟨h, 5, none⟩ = some (.string (B y.c.val)) := by
  obtain ⟨h0, a0, a1, a2, a3, a4, a5, a6, b0, b1, b2, b3, b4, b5⟩ := k0
  exact ⟨h0.tr k, cell_old a0 k, cell_old a1 k, cell_old a2 k, cell_old a3 k, cell_old a4 k, cell_old a5 k, cell_old a6 k, cell_old b0 k, cell_old b1 k, cell_old b2 k, cell_old b3 k, cell_old b4 k, cell_old b5 k⟩
/-- What the round keeps. -/
theorem Mg.step {Ls : List (List Itm)} {w wr : World} {K : List Itm} {ws : List Wt} {kv : Value} {gi : Nat} {x : Itm} (h : Mg Ls w K ws kv gi x true wr) {K' : List Itm}
    (hK : (∃ K0 y, K = K0 ++ [y] ∧ sameI y x = true ∧ K' = K) ∨ ((K = [] ∨ ∃ K0 y, K = K0 ++ [y] ∧ sameI y x = false) ∧ K' = K ++ [x])) : MInv Ls ws K' := by
  rcases h.st with ⟨-, ws0, top, h1, ⟨ws1, n1, n2, n3, n4, n5⟩, rfl⟩ | ⟨h1, -⟩
  · exact h1.step n1 n2 n3 n4 n5 hK
  · cases h1
/-- The state that the next item leaves. -/
theorem Mg.next {Ls : List (List Itm)} {w w9 : World} {K' : List Itm} {ws ws' : List Wt} {kv : Value} {gi : Nat} {x y : Itm} {ok : Bool} (hm : MInv Ls ws K') (od : Old w w9) (ow : OwnE 59 w9 w.heap.size kv K') (bx : Bk w9 gi 59 (icells y)) (lo : w.heap.size ≤ gi) (ne : gi ≠ w.heap.size) (nk : kv.ownBlock ≠ some gi)
    (q1 : HeapF (fun k => ws'[k]?) ws'.length) (q2 : Que w w.heap.size ws' w9) (q4 : ws'.length ≤ ws.length) (wl : ws.length ≤ 50000) (len : K'.length + tot ws ≤ Ls.flatten.length)
    (q5 : (ok = true ∧ ∃ top, x = top.x ∧ Nxt ws top ws' ∧ tot ws' + 1 = tot ws) ∨ (ok = false ∧ ws = [] ∧ ws' = [])) : Mg Ls w K' ws' kv gi x ok (putI w9 gi 0 x) := by
  refine ⟨od.putI lo 0 x, ?_, put_bk bx, lo, ne, nk, q1, q2.putI bx ne lo, by omega, ?_, ?_⟩
  · refine ⟨ow.1, ?_⟩
    rcases ow.2 with q | ⟨gg, cap, cur, hv, hb, hg, rest⟩
    · exact .inl q
    · refine .inr ⟨gg, cap, cur, hv, hb, ?_, rest⟩
      have hne : gg ≠ gi := by
        rintro rfl
        apply nk
        rw [hv]; rfl
      exact Bk.far (Bk.far (Bk.far (Bk.far (Bk.far (Bk.far (Bk.far hg hne _) hne _) hne _) hne _) hne _) hne _) hne _
  · rcases q5 with ⟨rfl, top, h1, h2, h3⟩ | ⟨rfl, rfl, rfl⟩
    · have h4 : okn true = 1 := rfl
      omega
    · have h4 : okn false = 0 := rfl
      omega
  · rcases q5 with ⟨rfl, top, h1, h2, h3⟩ | ⟨rfl, rfl, rfl⟩
    · exact .inl ⟨rfl, ws, top, hm, h2, h1⟩
    · exact .inr ⟨rfl, rfl, hm⟩
set_option maxHeartbeats 8000000 in
theorem merged_any (w : World) (v : Value) (Ls : List (List Itm)) (h : Lsts w v Ls) (hl : Ls.length ≤ 50000) (ht : Ls.flatten.length ≤ 49000) (hs : ∀ L ∈ Ls, Strict L) :
    Calls Try.prog 30 #[v] w fun e w' => ∃ u out, e = .returned u ∧ IsRes Ls.flatten out ∧ out.length ≤ Ls.flatten.length ∧ OwnE 59 w' w.heap.size u out ∧ Old w w' := by
  have C := inOrder_any w v Ls h hl
  have HS0 := Lib.hid hs
  clear h hs
  go_enter Try.func30, Try.ntmps30
  go_wp2_with fail
  refine C.mono ?_
  clear C
  rintro e w1 ⟨rfl, ws, p1, p2, p3, p4, p5⟩
  have C := next_any w w1 w.heap.size ws p2 p1 (by omega)
  have HW := Lib.hid (And.intro p2 (And.intro p3 (And.intro p5 p4)))
  clear p1 p2 p3 p4 p5
  go_wp2_with fail
  refine C.mono ?_
  clear C
  rintro e w2 ⟨x, ok, ws', rfl, q1, q2, q3, q4, q5⟩
  have hgq : w.heap.size < w2.heap.size := by
    obtain ⟨v', h1, -⟩ := q2.ex
    exact h1.lt
  have HM : Hid (Mg Ls w [] ws' (.slice none 0 0) w2.heap.size x ok (w2.alloc (.cells (icells x) 59))) := Lib.hid (by
    obtain ⟨r1, r2, r3, r4⟩ := HW.out
    have hm := r2.start HS0.out
    refine ⟨q2.old.al _, OwnE.nil _ _ _, new_bk _ _ _, by omega, by omega, by simp [Value.ownBlock], q1, q2.old_ (old_alloc _ _), by omega, ?_, ?_⟩
    · rcases q5 with ⟨rfl, top, -, -, h3⟩ | ⟨rfl, -, rfl⟩
      · have h4 : okn true = 1 := rfl
        have h5 : ([] : List Itm).length = 0 := rfl
        omega
      · exact Nat.zero_le _
    · rcases q5 with ⟨rfl, top, h1, h2, h3⟩ | ⟨rfl, rfl, rfl⟩
      · exact .inl ⟨rfl, ws, top, hm, h2, h1⟩
      · exact .inr ⟨rfl, rfl, hm⟩)
  clear q1 q2 q3 q4 q5 HW hgq
  go_wp2_with fail
  go_loopw [3, 5, 6] (fun kv ip okv wr => ∃ (K : List Itm) (ws : List Wt) (gi : Nat) (x : Itm) (ok : Bool) (A : Option Addr) (cap : Nat), kv = .slice A K.length cap ∧ ip = .pointer (some ⟨gi, 0, none⟩) ∧ okv = .bool ok ∧ Hid (Mg Ls w K ws (.slice A K.length cap) gi x ok wr)) (fun kv ip okv wr => totW w.heap.size wr + (match okv with | .bool true => 1 | _ => 0))
  case atStart => exact ⟨[], ws', w2.heap.size, x, ok, none, 0, rfl, rfl, rfl, HM⟩
  case round =>
    obtain ⟨K, ws, gi, x, ok, A, cap, rfl, rfl, rfl, HS⟩ := hrel
    cases ok with
    | false =>
      have HE := Lib.hid HS.out
      go_wp2_with fail
      go_ret
      obtain ⟨e1, e2, -, -, -, -, -, -, -, e5, e6⟩ := HE.out
      rcases e6 with ⟨h1, -⟩ | ⟨-, rfl, hm⟩
      · cases h1
      · have hr := hm.done HS0.out
        exact ⟨_, K, rfl, hr, by have h4 : okn false = 0 := rfl; omega, e2, e1⟩
    | true =>
      by_cases hK : K = []
      · subst hK
        go_upto_region 7 with (fail)
        refine wp_region_noPanic ?_
        refine wp_region_held_drew (S := fun _ => True) (by kernel_rfl) trivial (fun hHeld => ?_)
        refine wpAnyH_take (i := 0) (oi := ?o0) (v := .int .i64 0) ?h0 (by kernel_rfl) (by kernel_rfl) (by kernel_rfl) (fun _ _ _ h => h) ?y0 (by assumption) ?r0
        case h0 => (simp only [List.getElem?_toArray, List.getElem?_cons_zero]; rfl)
        case y0 => exact Or.inl ⟨by rfl, by (intro W hSw; go_simp)⟩
        simp only [Act.put, List.setIfInBounds_toArray, List.set_cons_zero, List.set_cons_succ]
        refine wpAnyH_take (i := 1) (oi := ?o1) (v := .bool true) ?h1 (by kernel_rfl) (by kernel_rfl) (by kernel_rfl) (fun _ _ _ h => h) ?y1 (by assumption) ?r1
        case h1 => (simp only [List.getElem?_toArray, List.getElem?_cons_zero, List.getElem?_cons_succ]; rfl)
        case y1 => exact Or.inl ⟨by rfl, by (intro W hSw; go_simp)⟩
        simp only [Act.put, List.setIfInBounds_toArray, List.set_cons_zero, List.set_cons_succ]
        refine wpAnyH_take (i := 2) (oi := ?o2) (v := .bool true) ?h2 (by kernel_rfl) (by kernel_rfl) (by kernel_rfl) (fun _ _ _ h => h) ?y2 (by assumption) ?r2
        case h2 => (simp only [List.getElem?_toArray, List.getElem?_cons_zero, List.getElem?_cons_succ]; rfl)
        case y2 => exact Or.inl ⟨by rfl, by (intro W hSw; go_simp)⟩
        simp only [Act.put, List.setIfInBounds_toArray, List.set_cons_zero, List.set_cons_succ]
        refine wpAnyH_take (i := 3) (oi := ?o3) (v := undef) ?h3 (by kernel_rfl) (by kernel_rfl) (by kernel_rfl) (fun _ _ _ h => h) ?y3 (by assumption) ?r3
        case h3 => (simp only [List.getElem?_toArray, List.getElem?_cons_zero, List.getElem?_cons_succ]; rfl)
        case y3 => exact Or.inr ⟨by rfl, rfl⟩
        simp only [Act.put, List.setIfInBounds_toArray, List.set_cons_zero, List.set_cons_succ]
        refine wpAnyH_take (i := 4) (oi := ?o4) (v := undef) ?h4 (by kernel_rfl) (by kernel_rfl) (by kernel_rfl) (fun _ _ _ h => h) ?y4 (by assumption) ?r4
        case h4 => (simp only [List.getElem?_toArray, List.getElem?_cons_zero, List.getElem?_cons_succ]; rfl)
        case y4 => exact Or.inr ⟨by rfl, rfl⟩
        simp only [Act.put, List.setIfInBounds_toArray, List.set_cons_zero, List.set_cons_succ]
        refine wpAnyH_take (i := 5) (oi := ?o5) (v := undef) ?h5 (by kernel_rfl) (by kernel_rfl) (by kernel_rfl) (fun _ _ _ h => h) ?y5 (by assumption) ?r5
        case h5 => (simp only [List.getElem?_toArray, List.getElem?_cons_zero, List.getElem?_cons_succ]; rfl)
        case y5 => exact Or.inr ⟨by rfl, rfl⟩
        simp only [Act.put, List.setIfInBounds_toArray, List.set_cons_zero, List.set_cons_succ]
        refine wpAnyH_take (i := 6) (oi := ?o6) (v := undef) ?h6 (by kernel_rfl) (by kernel_rfl) (by kernel_rfl) (fun _ _ _ h => h) ?y6 (by assumption) ?r6
        case h6 => (simp only [List.getElem?_toArray, List.getElem?_cons_zero, List.getElem?_cons_succ]; rfl)
        case y6 => exact Or.inr ⟨by rfl, rfl⟩
        simp only [Act.put, List.setIfInBounds_toArray, List.set_cons_zero, List.set_cons_succ]
        refine wpAnyH_take (i := 7) (oi := ?o7) (v := undef) ?h7 (by kernel_rfl) (by kernel_rfl) (by kernel_rfl) (fun _ _ _ h => h) ?y7 (by assumption) ?r7
        case h7 => (simp only [List.getElem?_toArray, List.getElem?_cons_zero, List.getElem?_cons_succ]; rfl)
        case y7 => exact Or.inr ⟨by rfl, rfl⟩
        simp only [Act.put, List.setIfInBounds_toArray, List.set_cons_zero, List.set_cons_succ]
        refine wpAnyH_take (i := 8) (oi := ?o8) (v := undef) ?h8 (by kernel_rfl) (by kernel_rfl) (by kernel_rfl) (fun _ _ _ h => h) ?y8 (by assumption) ?r8
        case h8 => (simp only [List.getElem?_toArray, List.getElem?_cons_zero, List.getElem?_cons_succ]; rfl)
        case y8 => exact Or.inr ⟨by rfl, rfl⟩
        simp only [Act.put, List.setIfInBounds_toArray, List.set_cons_zero, List.set_cons_succ]
        refine wpAnyH_take (i := 9) (oi := ?o9) (v := undef) ?h9 (by kernel_rfl) (by kernel_rfl) (by kernel_rfl) (fun _ _ _ h => h) ?y9 (by assumption) ?r9
        case h9 => (simp only [List.getElem?_toArray, List.getElem?_cons_zero, List.getElem?_cons_succ]; rfl)
        case y9 => exact Or.inr ⟨by rfl, rfl⟩
        simp only [Act.put, List.setIfInBounds_toArray, List.set_cons_zero, List.set_cons_succ]
        refine wpAnyH_take (i := 10) (oi := ?o10) (v := undef) ?h10 (by kernel_rfl) (by kernel_rfl) (by kernel_rfl) (fun _ _ _ h => h) ?y10 (by assumption) ?r10
        case h10 => (simp only [List.getElem?_toArray, List.getElem?_cons_zero, List.getElem?_cons_succ]; rfl)
        case y10 => exact Or.inr ⟨by rfl, rfl⟩
        simp only [Act.put, List.setIfInBounds_toArray, List.set_cons_zero, List.set_cons_succ]
        refine wpAnyH_take (i := 11) (oi := ?o11) (v := undef) ?h11 (by kernel_rfl) (by kernel_rfl) (by kernel_rfl) (fun _ _ _ h => h) ?y11 (by assumption) ?r11
        case h11 => (simp only [List.getElem?_toArray, List.getElem?_cons_zero, List.getElem?_cons_succ]; rfl)
        case y11 => exact Or.inr ⟨by rfl, rfl⟩
        simp only [Act.put, List.setIfInBounds_toArray, List.set_cons_zero, List.set_cons_succ]
        refine wpAnyH_take (i := 12) (oi := ?o12) (v := undef) ?h12 (by kernel_rfl) (by kernel_rfl) (by kernel_rfl) (fun _ _ _ h => h) ?y12 (by assumption) ?r12
        case h12 => (simp only [List.getElem?_toArray, List.getElem?_cons_zero, List.getElem?_cons_succ]; rfl)
        case y12 => exact Or.inr ⟨by rfl, rfl⟩
        simp only [Act.put, List.setIfInBounds_toArray, List.set_cons_zero, List.set_cons_succ]
        refine wpAnyH_take (i := 13) (oi := ?o13) (v := .bool true) ?h13 (by kernel_rfl) (by kernel_rfl) (by kernel_rfl) (fun _ _ _ h => h) ?y13 (by assumption) ?r13
        case h13 => (simp only [List.getElem?_toArray, List.getElem?_cons_zero, List.getElem?_cons_succ]; rfl)
        case y13 => exact Or.inl ⟨by rfl, by (intro W hSw; go_simp)⟩
        simp only [Act.put, List.setIfInBounds_toArray, List.set_cons_zero, List.set_cons_succ]
        refine wpAnyH_done (by kernel_rfl) ?_ _
        refine NoPanic.normal ?_
        have HS5 : Hid (Mg Ls w [] ws (.slice A 0 cap) gi x true wr.drew) := Lib.hid (HS.out.old (Old.re _).dr)
        have HMI : Hid (MInv Ls ws ([] ++ [x])) := Lib.hid (HS.out.step (.inr ⟨.inl rfl, rfl⟩))
        generalize wr.drew = w5 at *
        clear hHeld
        have x0 := HS5.out.bx.cell 0
        have x1 := HS5.out.bx.cell 1
        have x2 := HS5.out.bx.cell 2
        have x3 := HS5.out.bx.cell 3
        have x4 := HS5.out.bx.cell 4
        have x5 := HS5.out.bx.cell 5
        have x6 := HS5.out.bx.cell 6
        simp only [List.getElem?_toArray, List.getElem?_cons_zero, List.getElem?_cons_succ] at x0 x1 x2 x3 x4 x5 x6
        go_wp2_with (at_builtin; refine Hid.out ?_)
        refine Lib.hid ?_
        refine wp_itsB rfl (.tmp 37) (.tmp 39) 32 59 Try.underlying32 Try.infoItem rfl (W0 := w) (HS5.out.od.al _) _ [] [x] rfl (HS5.out.ow.old (old_alloc _ _)) _ rfl (one_its (new_bk _ _ _)) (by have h4 := HS5.out.len; have h5 : ([x] : List Itm).length = 1 := rfl; have h6 : okn true = 1 := rfl; omega) ?_
        intro v8 w8 n8 o8 f8 r8 s8
        have HB8 : Hid (Bk w8 gi 59 (icells x)) := Lib.hid (f8 _ _ _ (HS5.out.bx.alloc _) (fun e => HS5.out.nk e.symm))
        have HQ8 : Hid (Que w w.heap.size ws w8 ∧ OwnE 59 w8 w.heap.size v8 ([] ++ [x]) ∧ True ∧ HeapF (fun k => ws[k]?) ws.length ∧ ws.length ≤ 50000 ∧ ([] ++ [x]).length + tot ws ≤ Ls.flatten.length) := Lib.hid ⟨(HS5.out.qu.old_ (old_alloc _ _)).frame o8 (fun g t cs hb hne => f8 g t cs hb (row_ne (HS5.out.ow.old (old_alloc _ _)) hb hne.symm)), n8, trivial, HS5.out.hp, HS5.out.wl, by
          have h4 := HS5.out.len
          have h5 : ([] ++ [x]).length = ([] : List Itm).length + 1 := by rw [List.length_append]; rfl
          have h6 : okn true = 1 := rfl
          omega⟩
        obtain ⟨A8, cap8, rfl⟩ := row_sl n8
        clear n8 o8 f8 r8 s8 x0 x1 x2 x3 x4 x5 x6 HS5
        have hgq : w.heap.size < w8.heap.size := by
          obtain ⟨v', h1, -⟩ := HQ8.out.1.ex
          exact h1.lt
        have C := next_any w (w8.alloc (.cells (icells x) 59)) w.heap.size ws (HQ8.out.1.old_ (old_alloc _ _)) HQ8.out.2.2.2.1 HQ8.out.2.2.2.2.1
        have z0 := HB8.out.cell 0
        have z1 := HB8.out.cell 1
        have z2 := HB8.out.cell 2
        have z3 := HB8.out.cell 3
        have z4 := HB8.out.cell 4
        have z5 := HB8.out.cell 5
        have z6 := HB8.out.cell 6
        simp only [List.getElem?_toArray, List.getElem?_cons_zero, List.getElem?_cons_succ] at z0 z1 z2 z3 z4 z5 z6
        have hgi := HB8.out.lt
        go_wp2_with fail
        refine C.mono ?_
        clear C z0 z1 z2 z3 z4 z5 z6
        rintro e w9 ⟨x9, ok9, ws9, rfl, q1, q2, q3, q4, q5⟩
        have hq9 : Que w w.heap.size ws (w8.alloc (.cells (icells x) 59)) := HQ8.out.1.old_ (old_alloc _ _)
        have b9 : Bk w9 w8.heap.size 59 (icells x) := q3.keep hq9 (new_bk _ _ _) (by decide) (by omega)
        have HM9 : Hid (Mg Ls w ([] ++ [x]) ws9 (.slice A8 ([] ++ [x]).length cap8) w8.heap.size x9 ok9 (putI w9 w8.heap.size 0 x9)) := Lib.hid (Mg.next HMI.out q2.old ((HQ8.out.2.1.old (old_alloc _ _)).kq q3 hq9) b9 (by omega) (by omega) (fun e => by have := (World.ownsRow.lt HQ8.out.2.1 _ e).2; omega) q1 q2 q4 HQ8.out.2.2.2.2.1 HQ8.out.2.2.2.2.2 q5)
        have HT9 : Hid (tot ws9 + (match Value.bool ok9 with | .bool true => 1 | _ => 0) < tot ws + 1) := Lib.hid (by
          rcases q5 with ⟨rfl, top, h1, h2, h3⟩ | ⟨rfl, rfl, rfl⟩
          · show tot ws9 + 1 < tot ws + 1; omega
          · show tot [] + 0 < tot [] + 1; omega)
        have fr : ∀ q, w9.frozen? ⟨w8.heap.size, q, none⟩ = false := fun q => b9.fr q
        have z0 := b9.cell 0
        have z1 := b9.cell 1
        have z2 := b9.cell 2
        have z3 := b9.cell 3
        have z4 := b9.cell 4
        have z5 := b9.cell 5
        have z6 := b9.cell 6
        simp only [List.getElem?_toArray, List.getElem?_cons_zero, List.getElem?_cons_succ] at z0 z1 z2 z3 z4 z5 z6
        clear q1 q2 q3 q4 q5 hq9 b9 HQ8 HB8 hgq hgi
        go_wp2
        have hM := HM9.out
        unfold putI at hM
        simp only [Nat.zero_add] at hM
        have HMZ := Lib.hid hM
        clear hM HM9 z0 z1 z2 z3 z4 z5 z6 fr
        go_roundw
        case rel => exact ⟨([] ++ [x]), ws9, w8.heap.size, x9, ok9, A8, cap8, rfl, rfl, rfl, HMZ⟩
        case measure =>
          have h1 := totW_eq HMZ.out.qu
          have h2 := totW_eq HS.out.qu
          have h3 := HT9.out
          rw [← h1, ← h2] at h3
          exact h3
      · obtain ⟨K0, y, rfl⟩ : ∃ K0 y, K = K0 ++ [y] := ⟨K.dropLast, K.getLast hK, (List.dropLast_concat_getLast hK).symm⟩
        clear hK
        have hbx := HS.out.bx
        obtain ⟨b, off, rfl, hy⟩ := HS.out.ow.its.at_ (i := K0.length) (x := y) (by simp)
        have hS : Old wr wr ∧ wr.cell? ⟨b, off + K0.length * 7, none⟩ = some (.string (B y.c.row)) ∧ wr.cell? ⟨b, off + K0.length * 7 + 1, none⟩ = some (.string (B y.c.col)) ∧ wr.cell? ⟨b, off + K0.length * 7 + 2, none⟩ = some (.int .u64 y.c.ts) ∧ wr.cell? ⟨b, off + K0.length * 7 + 3, none⟩ = some (.int .u64 y.c.seq) ∧ wr.cell? ⟨b, off + K0.length * 7 + 4, none⟩ = some (.bool y.c.del) ∧ wr.cell? ⟨b, off + K0.length * 7 + 5, none⟩ = some (.string (B y.c.val)) ∧ wr.cell? ⟨b, off + K0.length * 7 + 6, none⟩ = some (.int .i64 y.pos) ∧ wr.cell? ⟨gi, 0, none⟩ = some (.string (B x.c.row)) ∧ wr.cell? ⟨gi, 1, none⟩ = some (.string (B x.c.col)) ∧ wr.cell? ⟨gi, 2, none⟩ = some (.int .u64 x.c.ts) ∧ wr.cell? ⟨gi, 3, none⟩ = some (.int .u64 x.c.seq) ∧ wr.cell? ⟨gi, 4, none⟩ = some (.bool x.c.del) ∧ wr.cell? ⟨gi, 5, none⟩ = some (.string (B x.c.val)) := ⟨Old.re _, hy.a0, hy.a1, hy.a2, hy.a3, hy.a4, hy.a5, hy.a6, hbx.cell 0, hbx.cell 1, hbx.cell 2, hbx.cell 3, hbx.cell 4, hbx.cell 5⟩
        clear hbx hy
        have hl0 : K0.length + 1 ≤ 49000 := by
          have h4 := HS.out.len
          rw [List.length_append] at h4
          have h5 : ([y] : List Itm).length = 1 := rfl
          omega
        obtain ⟨n, hn⟩ : ∃ n, (K0 ++ [y]).length = n := ⟨_, rfl⟩
        have hn1 : n = K0.length + 1 := by rw [← hn]; simp
        have hw1 : IntKind.i64.wrap ((n : Int) - 1) = (K0.length : Int) := by rw [IntKind.wrap_i64]; omega
        have hw2 : ((n : Int) == 0) = false := by simp; omega
        have hw3 : (0 : Int) ≤ (K0.length : Int) := by omega
        have hw4 : (K0.length : Int) < (n : Int) := by omega
        have hw5 : K0.length < n := by omega
        have hw6 : IntKind.i64.wrap (K0.length : Int) = (K0.length : Int) := by rw [IntKind.wrap_i64]; omega
        rw [hn]
        have HN := Lib.hid hn
        clear hn hn1
        obtain ⟨s, hsm⟩ : ∃ s, sameI y x = s := ⟨_, rfl⟩
        have HM : Hid (∀ W, Calls Try.prog 42 #[cv y.c, cv x.c] W fun e w' => e = .returned (.bool s) ∧ Old W w') := Lib.hid fun W => by rw [← hsm]; exact same_any y.c x.c W
        cases s with
        | true =>
          have HMI : Hid (MInv Ls ws (K0 ++ [y])) := Lib.hid (HS.out.step (.inl ⟨K0, y, rfl, hsm, rfl⟩))
          clear hsm
          go_upto_region 7 with (fail)
          go_region_held3 (fun W => Old wr W ∧ W.cell? ⟨b, off + K0.length * 7, none⟩ = some (.string (B y.c.row)) ∧ W.cell? ⟨b, off + K0.length * 7 + 1, none⟩ = some (.string (B y.c.col)) ∧ W.cell? ⟨b, off + K0.length * 7 + 2, none⟩ = some (.int .u64 y.c.ts) ∧ W.cell? ⟨b, off + K0.length * 7 + 3, none⟩ = some (.int .u64 y.c.seq) ∧ W.cell? ⟨b, off + K0.length * 7 + 4, none⟩ = some (.bool y.c.del) ∧ W.cell? ⟨b, off + K0.length * 7 + 5, none⟩ = some (.string (B y.c.val)) ∧ W.cell? ⟨b, off + K0.length * 7 + 6, none⟩ = some (.int .i64 y.pos) ∧ W.cell? ⟨gi, 0, none⟩ = some (.string (B x.c.row)) ∧ W.cell? ⟨gi, 1, none⟩ = some (.string (B x.c.col)) ∧ W.cell? ⟨gi, 2, none⟩ = some (.int .u64 x.c.ts) ∧ W.cell? ⟨gi, 3, none⟩ = some (.int .u64 x.c.seq) ∧ W.cell? ⟨gi, 4, none⟩ = some (.bool x.c.del) ∧ W.cell? ⟨gi, 5, none⟩ = some (.string (B x.c.val))) (first | exact ⟨hS.1.dr, hS.2⟩ | assumption | exact m2_old (by assumption) (by assumption))
            (first
              | (go_at_call 42; with_reducible refine (HM.out _).mono ?_; rintro r w5 ⟨rfl, h1b⟩))
          rename_i hHeld
          have HS5 : Hid (Mg Ls w (K0 ++ [y]) ws (.slice (some ⟨b, off, none⟩) n cap) gi x true w5) := Lib.hid (by have h5 := HS.out.old hHeld.1; rwa [HN.out] at h5)
          clear hHeld hS HM hw1 hw2 hw3 hw4 hw5 hw6
          have HB8 : Hid (Bk w5 gi 59 (icells x)) := Lib.hid HS5.out.bx
          have HQ8 : Hid (Que w w.heap.size ws w5 ∧ OwnE 59 w5 w.heap.size (.slice (some ⟨b, off, none⟩) n cap) (K0 ++ [y]) ∧ True ∧ HeapF (fun k => ws[k]?) ws.length ∧ ws.length ≤ 50000 ∧ (K0 ++ [y]).length + tot ws ≤ Ls.flatten.length) := Lib.hid ⟨HS5.out.qu, HS5.out.ow, trivial, HS5.out.hp, HS5.out.wl, by
            have h4 := HS5.out.len
            omega⟩
          clear HS5
          have hgq : w.heap.size < w5.heap.size := by
            obtain ⟨v', h1, -⟩ := HQ8.out.1.ex
            exact h1.lt
          have C := next_any w (w5.alloc (.cells (icells x) 59)) w.heap.size ws (HQ8.out.1.old_ (old_alloc _ _)) HQ8.out.2.2.2.1 HQ8.out.2.2.2.2.1
          have z0 := HB8.out.cell 0
          have z1 := HB8.out.cell 1
          have z2 := HB8.out.cell 2
          have z3 := HB8.out.cell 3
          have z4 := HB8.out.cell 4
          have z5 := HB8.out.cell 5
          have z6 := HB8.out.cell 6
          simp only [List.getElem?_toArray, List.getElem?_cons_zero, List.getElem?_cons_succ] at z0 z1 z2 z3 z4 z5 z6
          have hgi := HB8.out.lt
          go_wp2_with fail
          refine C.mono ?_
          clear C z0 z1 z2 z3 z4 z5 z6
          rintro e w9 ⟨x9, ok9, ws9, rfl, q1, q2, q3, q4, q5⟩
          have hq9 : Que w w.heap.size ws (w5.alloc (.cells (icells x) 59)) := HQ8.out.1.old_ (old_alloc _ _)
          have b9 : Bk w9 w5.heap.size 59 (icells x) := q3.keep hq9 (new_bk _ _ _) (by decide) (by omega)
          have HM9 : Hid (Mg Ls w (K0 ++ [y]) ws9 (.slice (some ⟨b, off, none⟩) n cap) w5.heap.size x9 ok9 (putI w9 w5.heap.size 0 x9)) := Lib.hid (Mg.next HMI.out q2.old ((HQ8.out.2.1.old (old_alloc _ _)).kq q3 hq9) b9 (by omega) (by omega) (fun e => by have := (World.ownsRow.lt HQ8.out.2.1 _ e).2; omega) q1 q2 q4 HQ8.out.2.2.2.2.1 HQ8.out.2.2.2.2.2 q5)
          have HT9 : Hid (tot ws9 + (match Value.bool ok9 with | .bool true => 1 | _ => 0) < tot ws + 1) := Lib.hid (by
            rcases q5 with ⟨rfl, top, h1, h2, h3⟩ | ⟨rfl, rfl, rfl⟩
            · show tot ws9 + 1 < tot ws + 1; omega
            · show tot [] + 0 < tot [] + 1; omega)
          have fr : ∀ q, w9.frozen? ⟨w5.heap.size, q, none⟩ = false := fun q => b9.fr q
          have z0 := b9.cell 0
          have z1 := b9.cell 1
          have z2 := b9.cell 2
          have z3 := b9.cell 3
          have z4 := b9.cell 4
          have z5 := b9.cell 5
          have z6 := b9.cell 6
          simp only [List.getElem?_toArray, List.getElem?_cons_zero, List.getElem?_cons_succ] at z0 z1 z2 z3 z4 z5 z6
          clear q1 q2 q3 q4 q5 hq9 b9 HQ8 HB8 hgq hgi
          go_wp2
          have hM := HM9.out
          unfold putI at hM
          simp only [Nat.zero_add] at hM
          have HMZ := Lib.hid hM
          clear hM HM9 z0 z1 z2 z3 z4 z5 z6 fr
          go_roundw
          case rel => exact ⟨(K0 ++ [y]), ws9, w5.heap.size, x9, ok9, (some ⟨b, off, none⟩), cap, by rw [HN.out], rfl, rfl, by rw [HN.out]; exact HMZ⟩
          case measure =>
            have h1 := totW_eq HMZ.out.qu
            have h2 := totW_eq HS.out.qu
            have h3 := HT9.out
            rw [← h1, ← h2] at h3
            exact h3
        | false =>
          have HMI : Hid (MInv Ls ws ((K0 ++ [y]) ++ [x])) := Lib.hid (HS.out.step (.inr ⟨.inr ⟨K0, y, rfl, hsm⟩, rfl⟩))
          clear hsm
          go_upto_region 7 with (fail)
          go_region_held3 (fun W => Old wr W ∧ W.cell? ⟨b, off + K0.length * 7, none⟩ = some (.string (B y.c.row)) ∧ W.cell? ⟨b, off + K0.length * 7 + 1, none⟩ = some (.string (B y.c.col)) ∧ W.cell? ⟨b, off + K0.length * 7 + 2, none⟩ = some (.int .u64 y.c.ts) ∧ W.cell? ⟨b, off + K0.length * 7 + 3, none⟩ = some (.int .u64 y.c.seq) ∧ W.cell? ⟨b, off + K0.length * 7 + 4, none⟩ = some (.bool y.c.del) ∧ W.cell? ⟨b, off + K0.length * 7 + 5, none⟩ = some (.string (B y.c.val)) ∧ W.cell? ⟨b, off + K0.length * 7 + 6, none⟩ = some (.int .i64 y.pos) ∧ W.cell? ⟨gi, 0, none⟩ = some (.string (B x.c.row)) ∧ W.cell? ⟨gi, 1, none⟩ = some (.string (B x.c.col)) ∧ W.cell? ⟨gi, 2, none⟩ = some (.int .u64 x.c.ts) ∧ W.cell? ⟨gi, 3, none⟩ = some (.int .u64 x.c.seq) ∧ W.cell? ⟨gi, 4, none⟩ = some (.bool x.c.del) ∧ W.cell? ⟨gi, 5, none⟩ = some (.string (B x.c.val))) (first | exact ⟨hS.1.dr, hS.2⟩ | assumption | exact m2_old (by assumption) (by assumption))
            (first
              | (go_at_call 42; with_reducible refine (HM.out _).mono ?_; rintro r w5 ⟨rfl, h1b⟩))
          rename_i hHeld
          have HS5 : Hid (Mg Ls w (K0 ++ [y]) ws (.slice (some ⟨b, off, none⟩) n cap) gi x true w5) := Lib.hid (by have h5 := HS.out.old hHeld.1; rwa [HN.out] at h5)
          clear hHeld hS HM hw1 hw2 hw3 hw4 hw5 hw6
          have x0 := HS5.out.bx.cell 0
          have x1 := HS5.out.bx.cell 1
          have x2 := HS5.out.bx.cell 2
          have x3 := HS5.out.bx.cell 3
          have x4 := HS5.out.bx.cell 4
          have x5 := HS5.out.bx.cell 5
          have x6 := HS5.out.bx.cell 6
          simp only [List.getElem?_toArray, List.getElem?_cons_zero, List.getElem?_cons_succ] at x0 x1 x2 x3 x4 x5 x6
          go_wp2_with (at_builtin; refine Hid.out ?_)
          refine Lib.hid ?_
          refine wp_itsB rfl (.tmp 37) (.tmp 39) 32 59 Try.underlying32 Try.infoItem rfl (W0 := w) (HS5.out.od.al _) _ (K0 ++ [y]) [x] rfl (HS5.out.ow.old (old_alloc _ _)) _ rfl (one_its (new_bk _ _ _)) (by have h4 := HS5.out.len; have h5 : ([x] : List Itm).length = 1 := rfl; have h6 : okn true = 1 := rfl; omega) ?_
          intro v8 w8 n8 o8 f8 r8 s8
          have HB8 : Hid (Bk w8 gi 59 (icells x)) := Lib.hid (f8 _ _ _ (HS5.out.bx.alloc _) (fun e => HS5.out.nk e.symm))
          have HQ8 : Hid (Que w w.heap.size ws w8 ∧ OwnE 59 w8 w.heap.size v8 ((K0 ++ [y]) ++ [x]) ∧ True ∧ HeapF (fun k => ws[k]?) ws.length ∧ ws.length ≤ 50000 ∧ ((K0 ++ [y]) ++ [x]).length + tot ws ≤ Ls.flatten.length) := Lib.hid ⟨(HS5.out.qu.old_ (old_alloc _ _)).frame o8 (fun g t cs hb hne => f8 g t cs hb (row_ne (HS5.out.ow.old (old_alloc _ _)) hb hne.symm)), n8, trivial, HS5.out.hp, HS5.out.wl, by
            have h4 := HS5.out.len
            have h5 : ((K0 ++ [y]) ++ [x]).length = ((K0 ++ [y]) : List Itm).length + 1 := by rw [List.length_append]; rfl
            have h6 : okn true = 1 := rfl
            omega⟩
          obtain ⟨A8, cap8, rfl⟩ := row_sl n8
          clear n8 o8 f8 r8 s8 x0 x1 x2 x3 x4 x5 x6 HS5
          have hgq : w.heap.size < w8.heap.size := by
            obtain ⟨v', h1, -⟩ := HQ8.out.1.ex
            exact h1.lt
          have C := next_any w (w8.alloc (.cells (icells x) 59)) w.heap.size ws (HQ8.out.1.old_ (old_alloc _ _)) HQ8.out.2.2.2.1 HQ8.out.2.2.2.2.1
          have z0 := HB8.out.cell 0
          have z1 := HB8.out.cell 1
          have z2 := HB8.out.cell 2
          have z3 := HB8.out.cell 3
          have z4 := HB8.out.cell 4
          have z5 := HB8.out.cell 5
          have z6 := HB8.out.cell 6
          simp only [List.getElem?_toArray, List.getElem?_cons_zero, List.getElem?_cons_succ] at z0 z1 z2 z3 z4 z5 z6
          have hgi := HB8.out.lt
          go_wp2_with fail
          refine C.mono ?_
          clear C z0 z1 z2 z3 z4 z5 z6
          rintro e w9 ⟨x9, ok9, ws9, rfl, q1, q2, q3, q4, q5⟩
          have hq9 : Que w w.heap.size ws (w8.alloc (.cells (icells x) 59)) := HQ8.out.1.old_ (old_alloc _ _)
          have b9 : Bk w9 w8.heap.size 59 (icells x) := q3.keep hq9 (new_bk _ _ _) (by decide) (by omega)
          have HM9 : Hid (Mg Ls w ((K0 ++ [y]) ++ [x]) ws9 (.slice A8 ((K0 ++ [y]) ++ [x]).length cap8) w8.heap.size x9 ok9 (putI w9 w8.heap.size 0 x9)) := Lib.hid (Mg.next HMI.out q2.old ((HQ8.out.2.1.old (old_alloc _ _)).kq q3 hq9) b9 (by omega) (by omega) (fun e => by have := (World.ownsRow.lt HQ8.out.2.1 _ e).2; omega) q1 q2 q4 HQ8.out.2.2.2.2.1 HQ8.out.2.2.2.2.2 q5)
          have HT9 : Hid (tot ws9 + (match Value.bool ok9 with | .bool true => 1 | _ => 0) < tot ws + 1) := Lib.hid (by
            rcases q5 with ⟨rfl, top, h1, h2, h3⟩ | ⟨rfl, rfl, rfl⟩
            · show tot ws9 + 1 < tot ws + 1; omega
            · show tot [] + 0 < tot [] + 1; omega)
          have fr : ∀ q, w9.frozen? ⟨w8.heap.size, q, none⟩ = false := fun q => b9.fr q
          have z0 := b9.cell 0
          have z1 := b9.cell 1
          have z2 := b9.cell 2
          have z3 := b9.cell 3
          have z4 := b9.cell 4
          have z5 := b9.cell 5
          have z6 := b9.cell 6
          simp only [List.getElem?_toArray, List.getElem?_cons_zero, List.getElem?_cons_succ] at z0 z1 z2 z3 z4 z5 z6
          clear q1 q2 q3 q4 q5 hq9 b9 HQ8 HB8 hgq hgi
          go_wp2
          have hM := HM9.out
          unfold putI at hM
          simp only [Nat.zero_add] at hM
          have HMZ := Lib.hid hM
          clear hM HM9 z0 z1 z2 z3 z4 z5 z6 fr
          go_roundw
          case rel => exact ⟨((K0 ++ [y]) ++ [x]), ws9, w8.heap.size, x9, ok9, A8, cap8, by simp, rfl, rfl, HMZ⟩
          case measure =>
            have h1 := totW_eq HMZ.out.qu
            have h2 := totW_eq HS.out.qu
            have h3 := HT9.out
            rw [← h1, ← h2] at h3
            exact h3
end Go.Proofs.Ytbccpplpfcfboaa
