/-
  Own lists of texts, and of files, that grow while another block is written; what is read of many files, many texts, an edit. Conditions: lengths as written.
-/
import Derived.Test.YteglddggjkibcaaFRd
namespace Go.Proofs.Yteglddggjkibcaa
open Go.RowKit Go.Shelf

theorem Try.infoStr : (Try.prog.info? 9).map (fun i => (i.zero, i.size, i.bytes)) = some (some (.string ByteArray.empty), 1, 16) := by kernel_rfl
/-- Texts as cells. -/
def ts (l : List (List UInt8)) : List Value := l.map fun t => .string (B t)
theorem ts_length (l : List (List UInt8)) : (ts l).length = l.length := by simp [ts]
theorem ts_append (l m : List (List UInt8)) : ts (l ++ m) = ts l ++ ts m := by simp [ts]
theorem ts_at {l : List (List UInt8)} {i : Nat} {t : List UInt8} (h : l[i]? = some t) : (ts l)[i]? = some (.string (B t)) := by
  unfold ts
  rw [List.getElem?_map, h]
  rfl
/-- v is a slice of the call's own, from block base on, of these texts. -/
def OwnS (w : World) (base : Nat) (v : Value) (l : List (List UInt8)) : Prop := w.ownsRow base 9 1 v l.length (ts l)
theorem OwnS.nil (w : World) (base : Nat) : OwnS w base (.slice none 0 0) [] := World.ownsRow_nil _ _ _ _
theorem OwnS.strs {w : World} {base : Nat} {v : Value} {l : List (List UInt8)} (h : OwnS w base v l) (hl : ∀ t ∈ l, t.length ≤ maxLen) : ∃ A cap, v = .slice A l.length cap ∧ Strs w A cap l := by
  have h' := h
  rcases h'.2 with ⟨rfl, hn⟩ | ⟨g, cap, cur, rfl, _, hg, hnc, _, hcs, htake⟩
  · have : l = [] := List.eq_nil_of_length_eq_zero hn
    subst this
    exact ⟨none, 0, rfl, Nat.le_refl _, fun i t ht => by simp at ht⟩
  · refine ⟨_, _, rfl, hnc, fun i t ht => ⟨hl t (List.mem_of_getElem? ht), g, 0, rfl, ?_⟩⟩
    have := World.ownsRow.cells h (g := g) rfl i _ (ts_at ht)
    rwa [Addr.add_lit] at this
/-- A row of the call's own stays where its block stays. -/
theorem own_stays {w w' : World} {base : Nat} {t : TypeId} {sz n : Nat} {v : Value} {xs : List Value} (h : w.ownsRow base t sz v n xs) (k : ∀ i o, base ≤ i → w.heap[i]? = some o → w'.heap[i]? = some o) : w'.ownsRow base t sz v n xs := by
  refine ⟨h.1, ?_⟩
  rcases h.2 with h1 | ⟨gg, cap, cur, hv, hb, hg, rest⟩
  · exact .inl h1
  · exact .inr ⟨gg, cap, cur, hv, hb, k gg _ hb hg, rest⟩
theorem but_stays {g : Nat} {w w' : World} (k : But g w w') {base : Nat} (hg : g < base) : ∀ i o, base ≤ i → w.heap[i]? = some o → w'.heap[i]? = some o := fun i o hi ho =>
  (k.block i (Array.getElem?_eq_some_iff.1 ho).1 (by intro e; injection e with e; omega)).trans ho
theorem alloc_stays (w : World) (ob : Obj) {base : Nat} : ∀ i o, base ≤ i → w.heap[i]? = some o → (w.alloc ob).heap[i]? = some o := fun i o _ ho =>
  ((old_alloc w ob).block i (Array.getElem?_eq_some_iff.1 ho).1).trans ho
theorem set_stays (w : World) (p : Addr) (u : Value) {base : Nat} (hp : p.block < base) : ∀ i o, base ≤ i → w.heap[i]? = some o → (w.setCell p u).heap[i]? = some o := fun i o hi ho =>
  (Below.heap_setCell w p u i (by omega)).trans ho
/-- append(v, x..) of items to a slice of the call's own. -/
theorem run_itsB {w : World} {base : Nat} {v x : Value} {xs news : List Itm} (t e : TypeId) (ht : Try.prog.underlying t = some (.slice e)) (hi : (Try.prog.info? e).map (fun i => (i.zero, i.size, i.bytes)) = some (some (.agg zeroItem), 5, 64)) (hb : base ≤ w.heap.size) (hown : OwnE e w base v xs) (hx : Itms w x news) (hlen : xs.length + news.length ≤ 100000) (ty : TypeId) :
    ∃ v' w', (Builtin.append_ #[t, t] ty #[v, x]).run Try.prog w = .ok v' w' ∧ OwnE e w' base v' (xs ++ news) ∧ w.grownBy w' v.ownBlock := by
  obtain ⟨i0, hi, hz0, hz1, hz2⟩ := info_parts hi
  rcases hx with ⟨rfl, rfl⟩ | ⟨A, cap, rfl, hc, hA⟩
  · refine ⟨v, w, run_append_owned_none (P := Try.prog) w base t ty e i0 5 ht hi v xs.length (flat xs) hown, by rw [List.append_nil]; exact hown, ⟨rfl, rfl, rfl, Nat.le_refl _, fun _ _ _ => rfl⟩⟩
  · have hnews : ∀ j u, (flat news)[j]? = some u → w.cell? (A.add j) = some u := by
      intro j u hu
      have hne : news ≠ [] := by rintro rfl; simp [flat] at hu
      obtain ⟨b, off, rfl, k⟩ := hA hne
      exact its_news k j u hu
    obtain ⟨v', w', hr, h2, h3, -, -⟩ := run_append_own_at (P := Try.prog) w base t ty e i0 (.agg zeroItem) 5 64 ht hi hz0 hz1 hz2 rfl (by decide) v xs.length (flat xs) hown A news.length cap (flat news) (flat_len _) hnews (flat_one _) (by unfold maxLen; omega) (by omega) hb
    refine ⟨v', w', hr, ?_, h3⟩
    unfold OwnE
    rw [flat_app, List.length_append]
    exact h2
theorem step_itsB {ops : Array Oper} {op : Oper} {a : Act} {K : Act → World → Prop} {Q : Exit → Act → World → Prop} {E : Prop} {w : World} {base : Nat} (hgd : op.guard = none) (d : Option Nat) (hd : op.dst = d) (s x : Operand) (t e : TypeId) (ht : Try.prog.underlying t = some (.slice e)) (hi : (Try.prog.info? e).map (fun i => (i.zero, i.size, i.bytes)) = some (some (.agg zeroItem), 5, 64))
    (ho : op.op = .call { callee := .builtin .append, args := #[s, x], argTypes := #[t, t] })
    (hb : base ≤ w.heap.size) (v : Value) (xs news : List Itm) (hs : a.eval s = v) (hown : OwnE e w base v xs) (xv : Value) (hx : a.eval x = xv) (hnews : Itms w xv news) (hlen : xs.length + news.length ≤ 100000)
    (h : ∀ v' w', OwnE e w' base v' (xs ++ news) → w.grownBy w' v.ownBlock → K (a.put d v') w') :
    if Region.wanted op (yielded ops a.tmps) = true then Oper.wp Try.prog op a w K Q else E := by
  obtain ⟨v', w', hr, h2, h3⟩ := run_itsB t e ht hi hb hown hnews hlen op.type
  have hw : Region.wanted op (yielded ops a.tmps) = true := by simp [Region.wanted, hgd]
  rw [if_pos hw]
  subst hd
  unfold Oper.wp execOp
  simp only [ho, resolve, invoke, builtin, Sem.run_bind, Sem.run_pure, Result.andThen_ok, List.map_toArray, List.map_cons, List.map_nil, hs, hx, hr]
  exact h v' w' h2 h3
theorem wp_itsB {ops : Array Oper} {rest : List Oper} {op : Oper} {a : Act} {Q : Exit → Act → World → Prop} {w : World} {base : Nat} (hgd : op.guard = none) (s x : Operand) (t e : TypeId) (ht : Try.prog.underlying t = some (.slice e)) (hi : (Try.prog.info? e).map (fun i => (i.zero, i.size, i.bytes)) = some (some (.agg zeroItem), 5, 64))
    (ho : op.op = .call { callee := .builtin .append, args := #[s, x], argTypes := #[t, t] })
    (hb : base ≤ w.heap.size) (v : Value) (xs news : List Itm) (hs : a.eval s = v) (hown : OwnE e w base v xs) (xv : Value) (hx : a.eval x = xv) (hnews : Itms w xv news) (hlen : xs.length + news.length ≤ 100000)
    (h : ∀ v' w', OwnE e w' base v' (xs ++ news) → w.grownBy w' v.ownBlock → wpList Try.prog ops Q rest (a.put op.dst v') w') : wpList Try.prog ops Q (op :: rest) a w := by
  obtain ⟨v', w', hr, h2, h3⟩ := run_itsB t e ht hi hb hown hnews hlen op.type
  refine wpList_plain hgd fun K hK => ?_
  unfold Oper.wp execOp
  simp only [ho, resolve, invoke, builtin, Sem.run_bind, Sem.run_pure, Result.andThen_ok, List.map_toArray, List.map_cons, List.map_nil, hs, hx, hr]
  exact hK _ _ (h v' w' h2 h3)
/-- append(v, t) of one text to a slice of the call's own. -/
theorem run_strB {w : World} {base : Nat} {v : Value} {l : List (List UInt8)} (hb : base ≤ w.heap.size) (hown : OwnS w base v l) (t : List UInt8) (g : Nat) (hS : Bk w g 9 #[.string (B t)]) (hlen : l.length ≤ 100000) (ty : TypeId) :
    ∃ v' w', (Builtin.append_ #[32, 32] ty #[v, .slice (some ⟨g, 0, none⟩) 1 1]).run Try.prog w = .ok v' w' ∧ OwnS w' base v' (l ++ [t]) ∧ w.grownBy w' v.ownBlock := by
  obtain ⟨i0, hi, hz0, hz1, hz2⟩ := info_parts Try.infoStr
  obtain ⟨v', w', hr, h2, h3, -, -⟩ := run_append_own_at (P := Try.prog) w base 32 ty 9 i0 (.string ByteArray.empty) 1 16 Try.underlying32 hi hz0 hz1 hz2 rfl (by decide) v l.length (ts l) hown ⟨g, 0, none⟩ 1 1 (ts [t]) (by simp [ts_length]) (by
    intro j u hu
    unfold ts at hu
    rw [Addr.add_lit, Nat.zero_add, hS.cell j]
    simpa using hu) (by
    intro u hu
    unfold ts at hu
    obtain ⟨_, _, rfl⟩ := List.mem_map.1 hu
    rfl) (by unfold maxLen; omega) (by omega) hb
  refine ⟨v', w', hr, ?_, h3⟩
  unfold OwnS
  rw [ts_append, List.length_append]
  exact h2
theorem step_strB {ops : Array Oper} {op : Oper} {a : Act} {K : Act → World → Prop} {Q : Exit → Act → World → Prop} {E : Prop} {w : World} {base : Nat} (hgd : op.guard = none) (d : Option Nat) (hd : op.dst = d) (s x : Operand)
    (ho : op.op = .call { callee := .builtin .append, args := #[s, x], argTypes := #[32, 32] })
    (hb : base ≤ w.heap.size) (v : Value) (l : List (List UInt8)) (hs : a.eval s = v) (hown : OwnS w base v l) (t : List UInt8) (g : Nat) (hx : a.eval x = .slice (some ⟨g, 0, none⟩) 1 1) (hS : Bk w g 9 #[.string (B t)]) (hlen : l.length ≤ 100000)
    (h : ∀ v' w', OwnS w' base v' (l ++ [t]) → w.grownBy w' v.ownBlock → K (a.put d v') w') :
    if Region.wanted op (yielded ops a.tmps) = true then Oper.wp Try.prog op a w K Q else E := by
  obtain ⟨v', w', hr, h2, h3⟩ := run_strB hb hown t g hS hlen op.type
  have hw : Region.wanted op (yielded ops a.tmps) = true := by simp [Region.wanted, hgd]
  rw [if_pos hw]
  subst hd
  unfold Oper.wp execOp
  simp only [ho, resolve, invoke, builtin, Sem.run_bind, Sem.run_pure, Result.andThen_ok, List.map_toArray, List.map_cons, List.map_nil, hs, hx, hr]
  exact h v' w' h2 h3
theorem wp_strB {ops : Array Oper} {rest : List Oper} {op : Oper} {a : Act} {Q : Exit → Act → World → Prop} {w : World} {base : Nat} (hgd : op.guard = none) (s x : Operand)
    (ho : op.op = .call { callee := .builtin .append, args := #[s, x], argTypes := #[32, 32] })
    (hb : base ≤ w.heap.size) (v : Value) (l : List (List UInt8)) (hs : a.eval s = v) (hown : OwnS w base v l) (t : List UInt8) (g : Nat) (hx : a.eval x = .slice (some ⟨g, 0, none⟩) 1 1) (hS : Bk w g 9 #[.string (B t)]) (hlen : l.length ≤ 100000)
    (h : ∀ v' w', OwnS w' base v' (l ++ [t]) → w.grownBy w' v.ownBlock → wpList Try.prog ops Q rest (a.put op.dst v') w') : wpList Try.prog ops Q (op :: rest) a w := by
  obtain ⟨v', w', hr, h2, h3⟩ := run_strB hb hown t g hS hlen op.type
  refine wpList_plain hgd fun K hK => ?_
  unfold Oper.wp execOp
  simp only [ho, resolve, invoke, builtin, Sem.run_bind, Sem.run_pure, Result.andThen_ok, List.map_toArray, List.map_cons, List.map_nil, hs, hx, hr]
  exact hK _ _ (h v' w' h2 h3)
/-- What grows stands behind base: blocks ahead of it stay. -/
theorem Bk.row {w w' : World} {base g : Nat} {e t : TypeId} {sz n : Nat} {v : Value} {xs : List Value} {cs : Array Value} (h : Bk w g t cs) (hown : w.ownsRow base e sz v n xs) (hg : w.grownBy w' v.ownBlock) (hlt : g < base) : Bk w' g t cs :=
  h.grown hg (fun e => by have := (World.ownsRow.lt hown g e.symm).1; omega)
theorem Old.row {w0 w w' : World} {base : Nat} {e : TypeId} {sz n : Nat} {v : Value} {xs : List Value} (o : Old w0 w) (hown : w.ownsRow base e sz v n xs) (hg : w.grownBy w' v.ownBlock) (hb : w0.heap.size ≤ base) : Old w0 w' :=
  o.trans ((Below.refl _ _).grown hg o.size (fun k hk => by have := (World.ownsRow.lt hown k hk).1; omega))
theorem old_but {w0 w w' : World} {g : Nat} (o : Old w0 w) (k : But g w w') (hg : w0.heap.size ≤ g) : Old w0 w' :=
  ⟨k.os.trans o.os, k.tape.trans o.tape, k.output.trans o.output, Nat.le_trans o.size k.size, fun i hi => (k.block i (Nat.lt_of_lt_of_le hi o.size) (by intro e; injection e with e; omega)).trans (o.block i hi)⟩

/-- Many files, many texts, as the reader takes them. -/
def rdFs : Nat → List UInt8 → List Itm × List UInt8
  | 0, s => ([], s)
  | n + 1, s => ((rdFs n s).1 ++ [(rdF (rdFs n s).2).1], (rdF (rdFs n s).2).2)
def rdTs : Nat → List UInt8 → List (List UInt8) × List UInt8
  | 0, s => ([], s)
  | n + 1, s => ((rdTs n s).1 ++ [(rdT (rdTs n s).2).1], (rdT (rdTs n s).2).2)
theorem rdFs_len (n : Nat) (s : List UInt8) : (rdFs n s).1.length = n ∧ (rdFs n s).2.length ≤ s.length := by
  induction n with
  | zero => exact ⟨rfl, Nat.le_refl _⟩
  | succ n ih =>
    have := rdF_len (rdFs n s).2
    refine ⟨by simp [rdFs, ih.1], ?_⟩
    show (rdF (rdFs n s).2).2.length ≤ _
    omega
theorem rdTs_len (n : Nat) (s : List UInt8) : (rdTs n s).1.length = n ∧ (rdTs n s).2.length ≤ s.length := by
  induction n with
  | zero => exact ⟨rfl, Nat.le_refl _⟩
  | succ n ih =>
    have := rdT_len (rdTs n s).2
    refine ⟨by simp [rdTs, ih.1], ?_⟩
    show (rdT (rdTs n s).2).2.length ≤ _
    omega
theorem rdTs_small (n : Nat) (s : List UInt8) : ∀ t ∈ (rdTs n s).1, t.length ≤ 255 := by
  induction n with
  | zero => intro t ht; simp [rdTs] at ht
  | succ n ih =>
    intro t ht
    rcases List.mem_append.1 ht with h | h
    · exact ih t h
    · rw [List.mem_singleton.1 h]
      exact rdT_got _
/-- What lies behind the two numbers. -/
def rd2 (t : List UInt8) : List UInt8 := (t.drop 8).drop 8
def rdn (t : List UInt8) : Nat := lowV ((rd2 t).take 1)
def rd4 (t : List UInt8) : List UInt8 := (rdFs (rdn t) ((rd2 t).drop 1)).2
def rdm (t : List UInt8) : Nat := lowV ((rd4 t).take 1)
/-- The edit that the code reads, whatever comes. -/
def rdE (t : List UInt8) : Ed := ⟨(rdFs (rdn t) ((rd2 t).drop 1)).1, (rdTs (rdm t) ((rd4 t).drop 1)).1, lowV (t.take 8), lowV ((t.drop 8).take 8)⟩
abbrev Ed0 : Ed := ⟨[], [], 0, 0⟩
/-- What Decode answers. -/
def decF (t : List UInt8) : Int × Ed := if encF (rdE t) = (0, t) then (0, rdE t) else (50, Ed0)
/-- What Decode leaves. -/
def PostD (w : World) (r : Int × Ed) (e : Ending) (w' : World) : Prop :=
  ∃ v A dc, e = .returned (.tuple #[.agg #[v, .slice A r.2.del.length dc, .int .u64 (r.2.next : Int), .int .u64 (r.2.fl : Int)], .int .i64 r.1]) ∧ Old w w' ∧ Itms w' v r.2.add ∧ Strs w' A dc r.2.del
end Go.Proofs.Yteglddggjkibcaa
