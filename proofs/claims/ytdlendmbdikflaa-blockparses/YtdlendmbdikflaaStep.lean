/-
  append of cells to a slice of the call's own; one entry as the reference reads it. No conditions but those written.
-/
import Derived.Test.YtdlendmbdikflaaRSame
namespace Go.Proofs.Ytdlendmbdikflaa
open Go.RowKit

theorem own_empty {w : World} {base g : Nat} (h : Bk w g 39 #[]) (hb : base ≤ g) : OwnC w base (.slice (some ⟨g, 0, none⟩) 0 0) [] :=
  ⟨rfl, .inr ⟨g, 0, #[], rfl, hb, h, Nat.le_refl _, by simp, rfl, rfl⟩⟩
theorem flat_one (l : List Cel) : ∀ u ∈ flat l, u.oneCell' = true := by
  intro u hu
  obtain ⟨c, -, hc⟩ := List.mem_flatMap.1 hu
  simp at hc
  rcases hc with rfl | rfl | rfl | rfl | rfl | rfl <;> rfl
theorem cels_news {w : World} {b off : Nat} {l : List Cel} (h : CelsAt w b off l) : ∀ j u, (flat l)[j]? = some u → w.cell? ((⟨b, off, none⟩ : Addr).add j) = some u := by
  intro j u hu
  rw [Addr.add_lit]
  have hj : j < l.length * 6 := by rw [← flat_len]; exact (List.getElem?_eq_some_iff.1 hu).1
  have hi : j / 6 < l.length := by omega
  have e := flat_at l (j / 6) (j % 6) l[j / 6] (List.getElem?_eq_getElem hi) (by omega)
  rw [show j / 6 * 6 + j % 6 = j by omega, hu] at e
  have hx := (h.at_ (j / 6) hi).held
  generalize l[j / 6] = c at *
  have e6 : j % 6 = 0 ∨ j % 6 = 1 ∨ j % 6 = 2 ∨ j % 6 = 3 ∨ j % 6 = 4 ∨ j % 6 = 5 := by omega
  obtain ⟨x0, x1, x2, x3, x4, x5⟩ := hx
  rcases e6 with g | g | g | g | g | g
  · rw [g] at e; rw [show off + j = off + j / 6 * 6 by omega, x0]; exact e.symm
  · rw [g] at e; rw [show off + j = off + j / 6 * 6 + 1 by omega, x1]; exact e.symm
  · rw [g] at e; rw [show off + j = off + j / 6 * 6 + 2 by omega, x2]; exact e.symm
  · rw [g] at e; rw [show off + j = off + j / 6 * 6 + 3 by omega, x3]; exact e.symm
  · rw [g] at e; rw [show off + j = off + j / 6 * 6 + 4 by omega, x4]; exact e.symm
  · rw [g] at e; rw [show off + j = off + j / 6 * 6 + 5 by omega, x5]; exact e.symm
theorem flat_app (l m : List Cel) : flat (l ++ m) = flat l ++ flat m := by simp [flat]

/-- append(v, x..) of cells: what comes of it. -/
theorem run_cels {W0 w : World} {v : Value} {xs news : List Cel} (o : Old W0 w) (hown : OwnC w W0.heap.size v xs) (b off m c : Nat) (hm : m = news.length) (hnews : CelsAt w b off news) (hlen : xs.length + news.length ≤ 100000) (ty : TypeId) :
    ∃ v' w', (Builtin.append_ #[22, 22] ty #[v, .slice (some ⟨b, off, none⟩) m c]).run Try.prog w = .ok v' w' ∧ OwnC w' W0.heap.size v' (xs ++ news) ∧ Old W0 w' ∧ (∀ g t cs, Bk w g t cs → some g ≠ v.ownBlock → Bk w' g t cs) := by
  obtain ⟨i0, hi, hz0, hz1, hz2⟩ := info_parts Try.infoCell
  subst hm
  obtain ⟨v', w', hr, h2, h3, -, -⟩ := run_append_own_at (P := Try.prog) w W0.heap.size 22 ty 39 i0 (.agg zeroCell) 6 72 Try.underlying22 hi hz0 hz1 hz2 rfl (by decide) v xs.length (flat xs) hown ⟨b, off, none⟩ news.length c (flat news) (flat_len _) (cels_news hnews) (flat_one _) (by unfold maxLen; omega) (by omega) o.size
  refine ⟨v', w', hr, ?_, o.trans ((Below.refl _ _).grown h3 o.size (fun k hk => (World.ownsRow.lt hown k hk).1)), fun g t cs hb hne => hb.grown h3 hne⟩
  unfold OwnC
  rw [flat_app, List.length_append]
  exact h2
theorem wp_cels {ops : Array Oper} {rest : List Oper} {o : Oper} {a : Act} {Q : Exit → Act → World → Prop} {W0 w : World} (hgd : o.guard = none) (s x : Operand)
    (ho : o.op = .call { callee := .builtin .append, args := #[s, x], argTypes := #[22, 22] })
    (hW : Old W0 w) (v : Value) (xs news : List Cel) (hs : a.eval s = v) (hown : OwnC w W0.heap.size v xs) (b off m c : Nat) (hx : a.eval x = .slice (some ⟨b, off, none⟩) m c) (hm : m = news.length) (hnews : CelsAt w b off news) (hlen : xs.length + news.length ≤ 100000)
    (h : ∀ v' w', OwnC w' W0.heap.size v' (xs ++ news) → Old W0 w' → wpList Try.prog ops Q rest (a.put o.dst v') w') : wpList Try.prog ops Q (o :: rest) a w := by
  obtain ⟨v', w', hr, h2, h3, h4⟩ := run_cels hW hown b off m c hm hnews hlen o.type
  refine wpList_plain hgd fun K hK => ?_
  unfold Oper.wp execOp
  simp only [ho, resolve, invoke, builtin, Sem.run_bind, Sem.run_pure, Result.andThen_ok, List.map_toArray, List.map_cons, List.map_nil, hs, hx, hr]
  exact hK _ _ (h v' w' h2 h3)

theorem OwnC.form2 {w : World} {base : Nat} {v : Value} {l : List Cel} (h : OwnC w base v l) : ∃ A cap, v = .slice A l.length cap := by
  rcases h.2 with ⟨rfl, h0⟩ | ⟨g', cap, cur, rfl, _⟩
  · exact ⟨none, 0, by rw [h0]⟩
  · exact ⟨_, _, rfl⟩
theorem cels_one {w : World} {g : Nat} {c : Cel} (h : Bk w g 39 (cells c)) : CelsAt w g 0 [c] := fun i d hd => by
  cases i with
  | zero =>
    simp at hd
    subst hd
    exact ⟨h.cell 0, h.cell 1, h.cell 2, h.cell 3, h.cell 4, h.cell 5⟩
  | succ i => simp at hd


/-- One entry, read as the reference does: its key, its cell, and what is behind it. -/
def rstep (key : List UInt8) : List UInt8 → Option (List UInt8 × Cel × List UInt8)
  | b0 :: b1 :: b2 :: b3 :: r =>
    if key.length < b0.toNat + 256 * b1.toNat ∨ r.length < b2.toNat + 256 * b3.toNat + 2 then none
    else match fromK (key.take (b0.toNat + 256 * b1.toNat) ++ r.take (b2.toNat + 256 * b3.toNat)) with
      | none => none
      | some x => match r.drop (b2.toNat + 256 * b3.toNat) with
        | d :: v :: q => if q.length < v.toNat then none else some (key.take (b0.toNat + 256 * b1.toNat) ++ r.take (b2.toNat + 256 * b3.toNat), ⟨x.row, x.col, x.ts, x.seq, d == 1, q.take v.toNat⟩, q.drop v.toNat)
        | _ => none
  | _ => none
theorem lowV2 (a b : UInt8) : lowV [a, b] = a.toNat + 256 * b.toNat := by simp [lowV]
theorem two_form (n : Nat) : two n = [UInt8.ofNat n, UInt8.ofNat (n / 256)] := rfl
theorem flag1_eq (d : Bool) : flag1 d = [bif d then 1 else 0] := by cases d <;> rfl
/-- What was written is read so. -/
theorem rstep_ent (k : Nat) (last : List UInt8) (c : Cel) (r : List UInt8) (hm : mayB c = true) (hok : c.ok) : rstep last (ent (lend k last) c ++ r) = some (key c, c, r) := by
  have hkl := key_len c hm
  have hsl := share_le (lend k last) (key c)
  have hv := (mayB_parts hm).2.2.2.2
  have hll : (lend k last).length ≤ last.length := lend_len k last _ (Nat.le_refl _)
  have htk : last.take (share (lend k last) (key c)) = (key c).take (share (lend k last) (key c)) := by
    rw [← share_take]
    unfold lend
    by_cases h : k % 4 = 0
    · rw [if_pos h, share_nil_left]; simp
    · rw [if_neg h]
  obtain ⟨n, hn⟩ : ∃ n, n = share (lend k last) (key c) := ⟨_, rfl⟩
  rw [← hn] at hsl htk
  have e0 : ent (lend k last) c ++ r = UInt8.ofNat n :: UInt8.ofNat (n / 256) :: UInt8.ofNat ((key c).length - n) :: UInt8.ofNat (((key c).length - n) / 256) :: ((key c).drop n ++ ((bif c.del then 1 else 0) :: UInt8.ofNat c.val.length :: (c.val ++ r))) := by
    unfold ent
    rw [← hn]
    simp [two, flag1_eq]
  have e1 : (UInt8.ofNat n).toNat + 256 * (UInt8.ofNat (n / 256)).toNat = n := by rw [UInt8.toNat_ofNat', UInt8.toNat_ofNat']; omega
  have e2 : (UInt8.ofNat ((key c).length - n)).toNat + 256 * (UInt8.ofNat (((key c).length - n) / 256)).toNat = (key c).length - n := by rw [UInt8.toNat_ofNat', UInt8.toNat_ofNat']; omega
  have e3 : (UInt8.ofNat c.val.length).toNat = c.val.length := by rw [UInt8.toNat_ofNat']; omega
  have hdl : ((key c).drop n).length = (key c).length - n := by simp
  rw [e0]
  generalize hX : ((bif c.del then 1 else 0) :: UInt8.ofNat c.val.length :: (c.val ++ r) : List UInt8) = X
  have hXl : 2 ≤ X.length := by rw [← hX]; simp
  have t1 : ((key c).drop n ++ X).take ((key c).length - n) = (key c).drop n := List.take_left' hdl
  have t2 : ((key c).drop n ++ X).drop ((key c).length - n) = X := List.drop_left' hdl
  simp only [rstep, e1, e2]
  rw [if_neg (by rw [List.length_append, hdl]; omega), t1, htk, List.take_append_drop, fromK_key c hm hok, t2, ← hX]
  simp only [e3]
  rw [if_neg (by simp)]
  cases hd : c.del <;> simp [bare]
  all_goals (obtain ⟨x1, x2, x3, x4, x5, x6⟩ := c; simp only at hd; subst hd; rfl)
theorem rstep_ok {key rest : List UInt8} {x : List UInt8 × Cel × List UInt8} (h : rstep key rest = some x) : x.2.1.ok ∧ x.1.length + x.2.2.length + 6 ≤ key.length + rest.length := by
  unfold rstep at h
  split at h
  · rename_i b0 b1 b2 b3 r
    split at h
    · cases h
    rename_i h1
    split at h
    · cases h
    rename_i y hy
    split at h
    · rename_i d v q hq
      split at h
      · cases h
      injection h with h
      subst h
      obtain ⟨-, -, ho, -, -⟩ := fromK_some hy
      refine ⟨ho, ?_⟩
      have hlen := congrArg List.length hq
      simp only [List.length_drop, List.length_cons] at hlen
      simp only [List.length_append, List.length_take, List.length_drop, List.length_cons]
      omega
    · cases h
  · cases h
theorem rstep_short {key rest : List UInt8} (h : rest.length < 4) : rstep key rest = none := by
  match rest, h with
  | [], _ => rfl
  | [_], _ => rfl
  | [_, _], _ => rfl
  | [_, _, _], _ => rfl
/-- What is behind a key. -/
def rtail (ky : List UInt8) (o : Option Cel) (r : List UInt8) : Option (List UInt8 × Cel × List UInt8) := match o with
  | none => none
  | some x => match r with
    | d :: v :: q => if q.length < v.toNat then none else some (ky, ⟨x.row, x.col, x.ts, x.seq, d == 1, q.take v.toNat⟩, q.drop v.toNat)
    | _ => none
theorem rtail_some (ky : List UInt8) (x : Cel) (d v : UInt8) (q : List UInt8) : rtail ky (some x) (d :: v :: q) = if q.length < v.toNat then none else some (ky, ⟨x.row, x.col, x.ts, x.seq, d == 1, q.take v.toNat⟩, q.drop v.toNat) := rfl
theorem rtail_at (ky : List UInt8) (x : Cel) (r : List UInt8) (d v : UInt8) (hr : r = d :: v :: r.drop 2) : rtail ky (some x) r = if (r.drop 2).length < v.toNat then none else some (ky, ⟨x.row, x.col, x.ts, x.seq, d == 1, (r.drop 2).take v.toNat⟩, (r.drop 2).drop v.toNat) := by
  generalize r.drop 2 = q at *
  subst hr
  rfl
theorem rstep_form {key rest : List UInt8} (h4 : 4 ≤ rest.length) (n m : Nat) (hn : n = (rest[0].toNat + 256 * rest[1].toNat)) (hm : m = rest[2].toNat + 256 * rest[3].toNat) :
    rstep key rest = if key.length < n ∨ rest.length < 4 + m + 2 then none else rtail (key.take n ++ (rest.drop 4).take m) (fromK (key.take n ++ (rest.drop 4).take m)) (rest.drop (4 + m)) := by
  match rest, h4 with
  | b0 :: b1 :: b2 :: b3 :: r, _ =>
    simp only [List.getElem_cons_zero, List.getElem_cons_succ] at hn hm
    subst hn hm
    have e1 : (b0 :: b1 :: b2 :: b3 :: r).drop 4 = r := rfl
    have e2 : (b0 :: b1 :: b2 :: b3 :: r).drop (4 + (b2.toNat + 256 * b3.toNat)) = r.drop (b2.toNat + 256 * b3.toNat) := by rw [← List.drop_drop, e1]
    have e3 : (b0 :: b1 :: b2 :: b3 :: r).length < 4 + (b2.toNat + 256 * b3.toNat) + 2 ↔ r.length < b2.toNat + 256 * b3.toNat + 2 := by simp only [List.length_cons]; omega
    rw [e1, e2]
    simp only [rstep, e3]
    rfl
/-- What is so far known of the cells, if there are any. -/
def soFar (s : List UInt8) (N k : Nat) (key rest : List UInt8) (out : List Cel) : Prop := ∀ L, parseO s = some L → L.length = N ∧ out = L.take k ∧ rest = entsFrom k key (L.drop k)
theorem soFar.bad {s : List UInt8} {N k : Nat} {key rest : List UInt8} {out : List Cel} (h : soFar s N k key rest out) (hk : k < N) (hr : rstep key rest = none) : parseO s = none := by
  cases hp : parseO s with
  | none => rfl
  | some L =>
    obtain ⟨h1, h2, h3⟩ := h L hp
    obtain ⟨e1, o1, -⟩ := parseO_some hp
    have hkl : k < L.length := by omega
    rw [List.drop_eq_getElem_cons hkl, entsFrom] at h3
    rw [h3, rstep_ent k key L[k] _ ((errB_zero.1 e1).2.1 _ (List.getElem_mem hkl)) (o1 _ (List.getElem_mem hkl))] at hr
    cases hr
theorem soFar.more {s : List UInt8} {N k : Nat} {key rest : List UInt8} {out : List Cel} {x : List UInt8 × Cel × List UInt8} (h : soFar s N k key rest out) (hk : k < N) (hr : rstep key rest = some x) : soFar s N (k + 1) x.1 x.2.2 (out ++ [x.2.1]) := by
  intro L hp
  obtain ⟨h1, h2, h3⟩ := h L hp
  obtain ⟨e1, o1, -⟩ := parseO_some hp
  have hkl : k < L.length := by omega
  rw [List.drop_eq_getElem_cons hkl, entsFrom] at h3
  rw [h3, rstep_ent k key L[k] _ ((errB_zero.1 e1).2.1 _ (List.getElem_mem hkl)) (o1 _ (List.getElem_mem hkl))] at hr
  injection hr with hr
  subst hr
  exact ⟨h1, by rw [h2, List.take_succ_eq_append_getElem hkl], rfl⟩
theorem soFar.first (b : UInt8) (t : List UInt8) : soFar (b :: t) b.toNat 0 [] t [] := by
  intro L hp
  obtain ⟨e1, o1, hb⟩ := parseO_some hp
  have h255 := (errB_zero.1 e1).1
  unfold blk at hb
  injection hb with h1 h2
  refine ⟨?_, rfl, h2.symm⟩
  rw [← h1, UInt8.toNat_ofNat']
  omega
/-- At the end: it is just what was read, if that is built so. -/
theorem soFar.last {s : List UInt8} {N : Nat} {key rest : List UInt8} {out : List Cel} (h : soFar s N N key rest out) (hok : ∀ c ∈ out, c.ok) : parseO s = if errB out = 0 ∧ blk out = s then some out else none := by
  by_cases g : errB out = 0 ∧ blk out = s
  · rw [if_pos g, ← g.2]
    exact parseO_blk out g.1 hok
  · rw [if_neg g]
    cases hp : parseO s with
    | none => rfl
    | some L =>
      obtain ⟨h1, h2, -⟩ := h L hp
      obtain ⟨e1, o1, hb⟩ := parseO_some hp
      rw [← h1, List.take_length] at h2
      subst h2
      exact absurd ⟨e1, hb⟩ g
end Go.Proofs.Ytdlendmbdikflaa
