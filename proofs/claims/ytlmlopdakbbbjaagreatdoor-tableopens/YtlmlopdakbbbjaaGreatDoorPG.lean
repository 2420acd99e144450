/-
  Texts in one: Step RPrs TROp. Conditions: as each theorem writes them.
-/
import Derived.Test.YtlmlopdakbbbjaaGreatDoorRSame
import Derived.Test.YtlmlopdakbbbjaaGreatDoorTCel
import Derived.Test.YtlmlopdakbbbjaaGreatDoorRG
namespace Go.Proofs.YtlmlopdakbbbjaaGreatDoor
open Go.RowKit

/-- append(v, x..) of cells: what comes of it. -/
theorem b_run_cels {W0 w : World} {v : Value} {xs news : List Cel} (o : Old W0 w) (hown : OwnC w W0.heap.size v xs) (b off m c : Nat) (hm : m = news.length) (hnews : CelsAt w b off news) (hlen : xs.length + news.length ≤ 100000) (ty : TypeId) :
    ∃ v' w', (Builtin.append_ #[22, 22] ty #[v, .slice (some ⟨b, off, none⟩) m c]).run Tryz.prog w = .ok v' w' ∧ OwnC w' W0.heap.size v' (xs ++ news) ∧ Old W0 w' ∧ (∀ g t cs, Bk w g t cs → some g ≠ v.ownBlock → Bk w' g t cs) := by
  obtain ⟨i0, hi, hz0, hz1, hz2⟩ := info_parts Tryz.infoCell
  subst hm
  obtain ⟨v', w', hr, h2, h3, -, -⟩ := run_append_own_at (P := Tryz.prog) w W0.heap.size 22 ty 34 i0 (.agg zeroCell) 6 72 Tryz.underlying22 hi hz0 hz1 hz2 rfl (by decide) v xs.length (flat xs) hown ⟨b, off, none⟩ news.length c (flat news) (flat_len _) (cels_news hnews) (flat_one _) (by unfold maxLen; omega) (by omega) o.size
  refine ⟨v', w', hr, ?_, o.trans ((Below.refl _ _).grown h3 o.size (fun k hk => (World.ownsRow.lt hown k hk).1)), fun g t cs hb hne => hb.grown h3 hne⟩
  unfold OwnC
  rw [flat_app, List.length_append]
  exact h2
theorem b_wp_cels {ops : Array Oper} {rest : List Oper} {o : Oper} {a : Act} {Q : Exit → Act → World → Prop} {W0 w : World} (hgd : o.guard = none) (s x : Operand)
    (ho : o.op = .call { callee := .builtin .append, args := #[s, x], argTypes := #[22, 22] })
    (hW : Old W0 w) (v : Value) (xs news : List Cel) (hs : a.eval s = v) (hown : OwnC w W0.heap.size v xs) (b off m c : Nat) (hx : a.eval x = .slice (some ⟨b, off, none⟩) m c) (hm : m = news.length) (hnews : CelsAt w b off news) (hlen : xs.length + news.length ≤ 100000)
    (h : ∀ v' w', OwnC w' W0.heap.size v' (xs ++ news) → Old W0 w' → wpList Tryz.prog ops Q rest (a.put o.dst v') w') : wpList Tryz.prog ops Q (o :: rest) a w := by
  obtain ⟨v', w', hr, h2, h3, h4⟩ := b_run_cels hW hown b off m c hm hnews hlen o.type
  refine wpList_plain hgd fun K hK => ?_
  unfold Oper.wp execOp
  simp only [ho, resolve, invoke, builtin, Sem.run_bind, Sem.run_pure, Result.andThen_ok, List.map_toArray, List.map_cons, List.map_nil, hs, hx, hr]
  exact hK _ _ (h v' w' h2 h3)

theorem OwnC.form2 {w : World} {base : Nat} {v : Value} {l : List Cel} (h : OwnC w base v l) : ∃ A cap, v = .slice A l.length cap := by
  rcases h.2 with ⟨rfl, h0⟩ | ⟨g', cap, cur, rfl, _⟩
  · exact ⟨none, 0, by rw [h0]⟩
  · exact ⟨_, _, rfl⟩
theorem cels_one {w : World} {g : Nat} {c : Cel} (h : Bk w g 34 (cells c)) : CelsAt w g 0 [c] := fun i d hd => by
  cases i with
  | zero =>
    simp at hd
    subst hd
    exact ⟨h.cell 0, h.cell 1, h.cell 2, h.cell 3, h.cell 4, h.cell 5⟩
  | succ i => simp at hd


/-- One entry, read as the reference does: its key, its cell, and what is behind it. -/
def rstep (key : List UInt8) : List UInt8 → Option (List UInt8 × Cel × List UInt8)
  | b0 :: b1 :: b2 :: b3 :: r =>
    if key.length < b0.toNat + 256 * b1.toNat ∨ r.length < b2.toNat + 256 * b3.toNat + 2 then none
    else match fromK (key.take (b0.toNat + 256 * b1.toNat) ++ r.take (b2.toNat + 256 * b3.toNat)) with
      | none => none
      | some x => match r.drop (b2.toNat + 256 * b3.toNat) with
        | d :: v :: q => if q.length < v.toNat then none else some (key.take (b0.toNat + 256 * b1.toNat) ++ r.take (b2.toNat + 256 * b3.toNat), ⟨x.row, x.col, x.ts, x.seq, d == 1, q.take v.toNat⟩, q.drop v.toNat)
        | _ => none
  | _ => none
theorem lowV2 (a b : UInt8) : lowV [a, b] = a.toNat + 256 * b.toNat := by simp [lowV]
theorem two_form (n : Nat) : two n = [UInt8.ofNat n, UInt8.ofNat (n / 256)] := rfl
theorem flag1_eq (d : Bool) : flag1 d = [bif d then 1 else 0] := by cases d <;> rfl
/-- What was written is read so. -/
theorem rstep_ent (k : Nat) (last : List UInt8) (c : Cel) (r : List UInt8) (hm : mayB c = true) (hok : c.ok) : rstep last (ent (lend k last) c ++ r) = some (key c, c, r) := by
  have hkl := key_len c hm
  have hsl := share_le (lend k last) (key c)
  have hv := (mayB_parts hm).2.2.2.2
  have hll : (lend k last).length ≤ last.length := lend_len k last _ (Nat.le_refl _)
  have htk : last.take (share (lend k last) (key c)) = (key c).take (share (lend k last) (key c)) := by
    rw [← share_take]
    unfold lend
    by_cases h : k % 4 = 0
    · rw [if_pos h, share_nil_left]; simp
    · rw [if_neg h]
  obtain ⟨n, hn⟩ : ∃ n, n = share (lend k last) (key c) := ⟨_, rfl⟩
  rw [← hn] at hsl htk
  have e0 : ent (lend k last) c ++ r = UInt8.ofNat n :: UInt8.ofNat (n / 256) :: UInt8.ofNat ((key c).length - n) :: UInt8.ofNat (((key c).length - n) / 256) :: ((key c).drop n ++ ((bif c.del then 1 else 0) :: UInt8.ofNat c.val.length :: (c.val ++ r))) := by
    unfold ent
    rw [← hn]
    simp [two, flag1_eq]
  have e1 : (UInt8.ofNat n).toNat + 256 * (UInt8.ofNat (n / 256)).toNat = n := by rw [UInt8.toNat_ofNat', UInt8.toNat_ofNat']; omega
  have e2 : (UInt8.ofNat ((key c).length - n)).toNat + 256 * (UInt8.ofNat (((key c).length - n) / 256)).toNat = (key c).length - n := by rw [UInt8.toNat_ofNat', UInt8.toNat_ofNat']; omega
  have e3 : (UInt8.ofNat c.val.length).toNat = c.val.length := by rw [UInt8.toNat_ofNat']; omega
  have hdl : ((key c).drop n).length = (key c).length - n := by simp
  rw [e0]
  generalize hX : ((bif c.del then 1 else 0) :: UInt8.ofNat c.val.length :: (c.val ++ r) : List UInt8) = X
  have hXl : 2 ≤ X.length := by rw [← hX]; simp
  have t1 : ((key c).drop n ++ X).take ((key c).length - n) = (key c).drop n := List.take_left' hdl
  have t2 : ((key c).drop n ++ X).drop ((key c).length - n) = X := List.drop_left' hdl
  simp only [rstep, e1, e2]
  rw [if_neg (by rw [List.length_append, hdl]; omega), t1, htk, List.take_append_drop, fromK_key c hm hok, t2, ← hX]
  simp only [e3]
  rw [if_neg (by simp)]
  cases hd : c.del <;> simp [bare]
  all_goals (obtain ⟨x1, x2, x3, x4, x5, x6⟩ := c; simp only at hd; subst hd; rfl)
theorem rstep_ok {key rest : List UInt8} {x : List UInt8 × Cel × List UInt8} (h : rstep key rest = some x) : x.2.1.ok ∧ x.1.length + x.2.2.length + 6 ≤ key.length + rest.length := by
  unfold rstep at h
  split at h
  · rename_i b0 b1 b2 b3 r
    split at h
    · cases h
    rename_i h1
    split at h
    · cases h
    rename_i y hy
    split at h
    · rename_i d v q hq
      split at h
      · cases h
      injection h with h
      subst h
      obtain ⟨-, -, ho, -, -⟩ := fromK_some hy
      refine ⟨ho, ?_⟩
      have hlen := congrArg List.length hq
      simp only [List.length_drop, List.length_cons] at hlen
      simp only [List.length_append, List.length_take, List.length_drop, List.length_cons]
      omega
    · cases h
  · cases h
theorem rstep_short {key rest : List UInt8} (h : rest.length < 4) : rstep key rest = none := by
  match rest, h with
  | [], _ => rfl
  | [_], _ => rfl
  | [_, _], _ => rfl
  | [_, _, _], _ => rfl
/-- What is behind a key. -/
def rtail (ky : List UInt8) (o : Option Cel) (r : List UInt8) : Option (List UInt8 × Cel × List UInt8) := match o with
  | none => none
  | some x => match r with
    | d :: v :: q => if q.length < v.toNat then none else some (ky, ⟨x.row, x.col, x.ts, x.seq, d == 1, q.take v.toNat⟩, q.drop v.toNat)
    | _ => none
theorem rtail_some (ky : List UInt8) (x : Cel) (d v : UInt8) (q : List UInt8) : rtail ky (some x) (d :: v :: q) = if q.length < v.toNat then none else some (ky, ⟨x.row, x.col, x.ts, x.seq, d == 1, q.take v.toNat⟩, q.drop v.toNat) := rfl
theorem rtail_at (ky : List UInt8) (x : Cel) (r : List UInt8) (d v : UInt8) (hr : r = d :: v :: r.drop 2) : rtail ky (some x) r = if (r.drop 2).length < v.toNat then none else some (ky, ⟨x.row, x.col, x.ts, x.seq, d == 1, (r.drop 2).take v.toNat⟩, (r.drop 2).drop v.toNat) := by
  generalize r.drop 2 = q at *
  subst hr
  rfl
theorem rstep_form {key rest : List UInt8} (h4 : 4 ≤ rest.length) (n m : Nat) (hn : n = (rest[0].toNat + 256 * rest[1].toNat)) (hm : m = rest[2].toNat + 256 * rest[3].toNat) :
    rstep key rest = if key.length < n ∨ rest.length < 4 + m + 2 then none else rtail (key.take n ++ (rest.drop 4).take m) (fromK (key.take n ++ (rest.drop 4).take m)) (rest.drop (4 + m)) := by
  match rest, h4 with
  | b0 :: b1 :: b2 :: b3 :: r, _ =>
    simp only [List.getElem_cons_zero, List.getElem_cons_succ] at hn hm
    subst hn hm
    have e1 : (b0 :: b1 :: b2 :: b3 :: r).drop 4 = r := rfl
    have e2 : (b0 :: b1 :: b2 :: b3 :: r).drop (4 + (b2.toNat + 256 * b3.toNat)) = r.drop (b2.toNat + 256 * b3.toNat) := by rw [← List.drop_drop, e1]
    have e3 : (b0 :: b1 :: b2 :: b3 :: r).length < 4 + (b2.toNat + 256 * b3.toNat) + 2 ↔ r.length < b2.toNat + 256 * b3.toNat + 2 := by simp only [List.length_cons]; omega
    rw [e1, e2]
    simp only [rstep, e3]
    rfl
/-- What is so far known of the cells, if there are any. -/
def soFar (s : List UInt8) (N k : Nat) (key rest : List UInt8) (out : List Cel) : Prop := ∀ L, parseO s = some L → L.length = N ∧ out = L.take k ∧ rest = entsFrom k key (L.drop k)
theorem soFar.bad {s : List UInt8} {N k : Nat} {key rest : List UInt8} {out : List Cel} (h : soFar s N k key rest out) (hk : k < N) (hr : rstep key rest = none) : parseO s = none := by
  cases hp : parseO s with
  | none => rfl
  | some L =>
    obtain ⟨h1, h2, h3⟩ := h L hp
    obtain ⟨e1, o1, -⟩ := parseO_some hp
    have hkl : k < L.length := by omega
    rw [List.drop_eq_getElem_cons hkl, entsFrom] at h3
    rw [h3, rstep_ent k key L[k] _ ((errB_zero.1 e1).2.1 _ (List.getElem_mem hkl)) (o1 _ (List.getElem_mem hkl))] at hr
    cases hr
theorem soFar.more {s : List UInt8} {N k : Nat} {key rest : List UInt8} {out : List Cel} {x : List UInt8 × Cel × List UInt8} (h : soFar s N k key rest out) (hk : k < N) (hr : rstep key rest = some x) : soFar s N (k + 1) x.1 x.2.2 (out ++ [x.2.1]) := by
  intro L hp
  obtain ⟨h1, h2, h3⟩ := h L hp
  obtain ⟨e1, o1, -⟩ := parseO_some hp
  have hkl : k < L.length := by omega
  rw [List.drop_eq_getElem_cons hkl, entsFrom] at h3
  rw [h3, rstep_ent k key L[k] _ ((errB_zero.1 e1).2.1 _ (List.getElem_mem hkl)) (o1 _ (List.getElem_mem hkl))] at hr
  injection hr with hr
  subst hr
  exact ⟨h1, by rw [h2, List.take_succ_eq_append_getElem hkl], rfl⟩
theorem soFar.first (b : UInt8) (t : List UInt8) : soFar (b :: t) b.toNat 0 [] t [] := by
  intro L hp
  obtain ⟨e1, o1, hb⟩ := parseO_some hp
  have h255 := (errB_zero.1 e1).1
  unfold blk at hb
  injection hb with h1 h2
  refine ⟨?_, rfl, h2.symm⟩
  rw [← h1, UInt8.toNat_ofNat']
  omega
/-- At the end: it is just what was read, if that is built so. -/
theorem soFar.last {s : List UInt8} {N : Nat} {key rest : List UInt8} {out : List Cel} (h : soFar s N N key rest out) (hok : ∀ c ∈ out, c.ok) : parseO s = if errB out = 0 ∧ blk out = s then some out else none := by
  by_cases g : errB out = 0 ∧ blk out = s
  · rw [if_pos g, ← g.2]
    exact parseO_blk out g.1 hok
  · rw [if_neg g]
    cases hp : parseO s with
    | none => rfl
    | some L =>
      obtain ⟨h1, h2, -⟩ := h L hp
      obtain ⟨e1, o1, hb⟩ := parseO_some hp
      rw [← h1, List.take_length] at h2
      subst h2
      exact absurd ⟨e1, hb⟩ g
end Go.Proofs.YtlmlopdakbbbjaaGreatDoor

namespace Go.Proofs.YtlmlopdakbbbjaaGreatDoor
open Go.RowKit

theorem B_inj {a b : List UInt8} (h : B a = B b) : a = b := by
  have := congrArg (fun x : ByteArray => x.data.toList) h
  simpa using this
theorem len_small {n k b : Nat} (h1 : n = k) (h2 : k < b) (h3 : b < 256) : n + 1 ≤ 100000 := by omega
theorem wrap_k1 {k b : Nat} (h1 : k < b) (h2 : b < 256) : wrap64 ((k : Int) + 1) = (k : Int) + 1 := by unfold wrap64; omega
theorem meas2 {k b : Nat} (h1 : k < b) (h2 : b < 256) : b - (intOf (.int .i64 (wrap64 ((k : Int) + 1)))).toNat < b - (intOf (.int .i64 (k : Int))).toNat := by
  rw [wrap_k1 h1 h2]
  simp [intOf]
  omega
theorem meas3 {k b : Nat} (h1 : k < b) (h2 : b < 256) : b - (intOf (.int .i64 ((k : Int) + 1))).toNat < b - (intOf (.int .i64 (k : Int))).toNat := by
  simp [intOf]
  omega
theorem wrap_small (x : Nat) (h : x < 1000000) : IntKind.i64.wrap (x : Int) = (x : Int) ∧ wrap64 (x : Int) = (x : Int) := by
  constructor
  · rw [IntKind.wrap_i64]; omega
  · unfold wrap64; omega

theorem sz_lt {l : List UInt8} {i : Nat} (h : 2 ≤ l.length) (hi : i < 2) : i < (B l).size := by simp [ByteArray.size]; omega
theorem sub_lt2 {a b : Nat} (h2 : 2 ≤ a) (h : a < 2 + b) : a - 2 < b := by omega
theorem sub_ge2 {a b : Nat} (h : ¬ a < 2 + b) : ¬ a - 2 < b := by omega
theorem int_lt2 {a b : Nat} (h : a < 2 + b) : decide ((a : Int) < 2 + (b : Int)) = true := by simp; omega
theorem int_ge2 {a b : Nat} (h : ¬ a < 2 + b) : decide ((a : Int) < 2 + (b : Int)) = false := by simp; omega
theorem int_le2 {a b : Nat} (h : ¬ a < 2 + b) : (2 : Int) + (b : Int) ≤ (a : Int) := by omega
theorem int_two (b : Nat) : (2 : Int) ≤ 2 + (b : Int) ∧ ((2 : Int) + (b : Int)).toNat = 2 + b ∧ (0 : Int) ≤ 2 + (b : Int) := by omega
theorem del_one (d : UInt8) : ((d.toNat : Int) == 1) = (d == 1) := by
  rw [Bool.eq_iff_iff, beq_iff_eq, beq_iff_eq]
  constructor
  · intro e; exact UInt8.toNat_inj.1 (by have : d.toNat = 1 := by omega
                                         rw [this]; rfl)
  · rintro rfl; rfl
theorem OwnC.farg {w : World} {base g : Nat} {v : Value} {l : List Cel} (h : OwnC w base v l) (hne : some g ≠ v.ownBlock) (o : Nat) (u : Value) : OwnC (w.setCell ⟨g, o, none⟩ u) base v l := by
  have hb : w.grownBy (w.setCell ⟨g, o, none⟩ u) (some g) := ⟨rfl, rfl, rfl, by simp [World.setCell], fun i _ hne => Below.heap_setCell w ⟨g, o, none⟩ u i (by rintro rfl; exact hne rfl)⟩
  exact World.ownsRow.kept (row := some g) h hb (.inr hne.symm)
theorem own_not_new {w : World} {base : Nat} {v : Value} {l : List Cel} (h : OwnC w base v l) : some w.heap.size ≠ v.ownBlock := by
  intro e
  rcases h.2 with ⟨rfl, _⟩ | ⟨g', cap, cur, rfl, _, hg, _⟩
  · cases e
  · have e : w.heap.size = g' := by simpa [Value.ownBlock] using e
    rw [← e, Array.getElem?_eq_none (Nat.le_refl _)] at hg
    cases hg
/-- What Parse answers where there is nothing. -/
theorem none_ans {s : List UInt8} {w W : World} (hp : parseO s = none) (ho : Old w W) : ∃ v, Ending.returned (.tuple #[.slice none 0 0, .int .i64 50]) = .returned (.tuple #[v, .int .i64 (parseE s)]) ∧ (∃ base, OwnC W base v ((parseO s).getD [])) ∧ Old w W := by
  refine ⟨.slice none 0 0, ?_, ?_, ho⟩
  · unfold parseE; rw [hp]
  · rw [hp]; exact ⟨0, OwnC.nil _ _⟩

set_option maxRecDepth 100000 in
set_option maxHeartbeats 8000000 in
theorem rparse_any (s : List UInt8) (hs : s.length ≤ 100000) (w : World) :
    Calls Tryz.prog 44 #[.string (B s)] w fun e W' => ∃ v, e = .returned (.tuple #[v, .int .i64 (parseE s)]) ∧ (∃ base, OwnC W' base v ((parseO s).getD [])) ∧ Old w W' := by
  by_cases hz : s.length = 0
  · have hnil : s = [] := List.eq_nil_of_length_eq_zero hz
    subst hnil
    go_enter Tryz.func44, Tryz.ntmps44
    go_wp2
    go_ret2
    exact none_ans (by unfold parseO; simp [itsOf]) (Old.re _)
  have h0 : 0 < s.length := by omega
  have hF : soFar s s[0].toNat 0 [] (s.drop 1) [] := by
    have := soFar.first s[0] (s.drop 1)
    rwa [← List.drop_eq_getElem_cons h0] at this
  have hb := s[0].toNat_lt
  have hsl : (s.drop 1).length ≤ 100000 := by simp; omega
  have hxt : (B s).extract 1 s.length = B (s.drop 1) := ext_drop s 1 _ (Nat.le_refl _)
  have hix : (B s)[0]'(by simpa [ByteArray.size] using h0) = s[0] := rfl
  have hpos : (0 : Int) < (s.length : Int) := by omega
  have hne : ((s.length : Int) == 0) = false := by rw [beq_eq_false_iff_ne]; omega
  have h1l : (1 : Int) ≤ (s.length : Int) := by omega
  obtain ⟨w1, w2⟩ := wrap_small s[0].toNat (by omega)
  generalize hb0 : s[0] = b at *
  clear hb0
  generalize s.drop 1 = t at *
  have o1 := old_alloc w (.cells #[] 34)
  have hE : OwnC (w.alloc (.cells #[] 34)) w.heap.size (.slice (some ⟨w.heap.size, 0, none⟩) 0 0) [] := own_empty (new_bk _ _ _) (Nat.le_refl _)
  go_enter Tryz.func44, Tryz.ntmps44
  go_wp2_with fail
  go_loopw [4, 5, 6, 7] (fun vo vk vr vi wr => ∃ (k : Nat) (key rest : List UInt8) (out : List Cel), k ≤ b.toNat ∧ vk = .string (B key) ∧ vr = .string (B rest) ∧ vi = .int .i64 k ∧ OwnC wr w.heap.size vo out ∧ Old w wr ∧ out.length = k ∧ key.length + rest.length ≤ 100000 ∧ Hid (∀ c ∈ out, c.ok) ∧ Hid (soFar s b.toNat k key rest out)) (fun _ _ _ i _ => b.toNat - (intOf i).toNat)
  case atStart => exact ⟨0, [], t, [], by omega, rfl, rfl, rfl, hE, o1, rfl, by simpa using hsl, Lib.hid (by simp), Lib.hid hF⟩
  case round =>
    obtain ⟨k, key, rest, out, hk, rfl, rfl, rfl, ho, hw, hol, hkr, HO, HF⟩ := hrel
    clear hF hE o1 hsl hxt
    by_cases hkN : k < b.toNat
    · have hI : decide ((k : Int) < (b.toNat : Int)) = true := by simp; omega
      by_cases h4 : rest.length < 4
      · have d4 : decide ((rest.length : Int) < 4) = true := by simp; omega
        have HN := Lib.hid (HF.out.bad hkN (rstep_short h4))
        go_wp2
        go_ret2
        exact none_ans HN.out hw
      have d4 : decide ((rest.length : Int) < 4) = false := by simp; omega
      have hr4 : 4 ≤ rest.length := by omega
      have j0 : (0 : Int) < (rest.length : Int) := by omega
      have j1 : (1 : Int) < (rest.length : Int) := by omega
      have j2 : (2 : Int) < (rest.length : Int) := by omega
      have j3 : (3 : Int) < (rest.length : Int) := by omega
      obtain ⟨n, hn⟩ : ∃ n, n = rest[0].toNat + 256 * rest[1].toNat := ⟨_, rfl⟩
      obtain ⟨m, hm⟩ : ∃ m, m = rest[2].toNat + 256 * rest[3].toNat := ⟨_, rfl⟩
      have HR := Lib.hid (rstep_form (key := key) hr4 n m hn hm)
      have i0 : (B rest)[0]'(by simp [ByteArray.size]; omega) = rest[0] := rfl
      have i1 : (B rest)[1]'(by simp [ByteArray.size]; omega) = rest[1] := rfl
      have i2 : (B rest)[2]'(by simp [ByteArray.size]; omega) = rest[2] := rfl
      have i3 : (B rest)[3]'(by simp [ByteArray.size]; omega) = rest[3] := rfl
      have l0 := rest[0].toNat_lt
      have l1 := rest[1].toNat_lt
      have l2 := rest[2].toNat_lt
      have l3 := rest[3].toNat_lt
      have v0 := (wrap_small rest[0].toNat (by omega)).1
      have v1 := (wrap_small rest[1].toNat (by omega)).1
      have v2 := (wrap_small rest[2].toNat (by omega)).1
      have v3 := (wrap_small rest[3].toNat (by omega)).1
      have p1 : IntKind.i64.wrap ((256 : Int) * (rest[1].toNat : Int)) = (256 : Int) * (rest[1].toNat : Int) := by rw [IntKind.wrap_i64]; omega
      have p3 : IntKind.i64.wrap ((256 : Int) * (rest[3].toNat : Int)) = (256 : Int) * (rest[3].toNat : Int) := by rw [IntKind.wrap_i64]; omega
      have s1 : IntKind.i64.wrap ((rest[0].toNat : Int) + (256 : Int) * (rest[1].toNat : Int)) = (n : Int) := by rw [IntKind.wrap_i64]; omega
      have s3 : IntKind.i64.wrap ((rest[2].toNat : Int) + (256 : Int) * (rest[3].toNat : Int)) = (m : Int) := by rw [IntKind.wrap_i64]; omega
      have z1 : (rest[0].toNat : Int) + (256 : Int) * (rest[1].toNat : Int) = (n : Int) := by omega
      have z3 : (rest[2].toNat : Int) + (256 : Int) * (rest[3].toNat : Int) = (m : Int) := by omega
      have hnl : n < 65536 := by omega
      have hml : m < 65536 := by omega
      clear hn hm
      generalize rest[0] = b0 at *
      generalize rest[1] = b1 at *
      generalize rest[2] = b2 at *
      generalize rest[3] = b3 at *
      go_wp2_with fail
      go_quiet (fail)
      go_wp2_with fail
      go_quiet (fail)
      generalize hw3 : ((wr.drewN _).drewN _ : World) = w3
      have oW : Old wr w3 := by rw [← hw3]; exact ((Old.re _).dn _).dn _
      have o3 := hw.tr oW
      have ho3 := ho.old oW
      clear hw3 hw ho oW i0 i1 i2 i3 l0 l1 l2 l3 v0 v1 v2 v3 p1 p3 s1 s3 z1 z3 j0 j1 j2 j3 w1 w2
      by_cases c1 : key.length < n
      · have e1 : decide ((key.length : Int) < (n : Int)) = true := by simp; omega
        have HN := Lib.hid (HF.out.bad hkN (by rw [HR.out, if_pos (.inl c1)]))
        go_wp2
        go_ret2
        exact none_ans HN.out o3
      have e1 : decide ((key.length : Int) < (n : Int)) = false := by simp; omega
      by_cases c2 : rest.length < 4 + m + 2
      · have e2 : decide ((rest.length : Int) < 4 + (m : Int) + 2) = true := by simp; omega
        have HN := Lib.hid (HF.out.bad hkN (by rw [HR.out, if_pos (.inr c2)]))
        go_wp2
        go_ret2
        exact none_ans HN.out o3
      have e2 : decide ((rest.length : Int) < 4 + (m : Int) + 2) = false := by simp; omega
      have HR2 := Lib.hid (show rstep key rest = rtail (key.take n ++ (rest.drop 4).take m) (fromK (key.take n ++ (rest.drop 4).take m)) (rest.drop (4 + m)) by rw [HR.out, if_neg (by omega)])
      clear HR
      have y1 : (n : Int) ≤ (key.length : Int) := by omega
      have y2 : (4 : Int) + (m : Int) ≤ (rest.length : Int) := by omega
      have y3 : (4 : Int) ≤ 4 + (m : Int) := by omega
      have y4 : ((4 : Int) + (m : Int)).toNat = 4 + m := by omega
      have y5 : (0 : Int) ≤ 4 + (m : Int) := by omega
      have y6 : IntKind.i64.wrap (4 + (m : Int)) = 4 + (m : Int) := by rw [IntKind.wrap_i64]; omega
      have x1 : (B key).extract 0 n = B (key.take n) := ext_take _ _
      have x2 : (B rest).extract 4 (4 + m) = B ((rest.drop 4).take m) := by rw [ext_B, Nat.add_sub_cancel_left]
      have x3 : B (key.take n) ++ B ((rest.drop 4).take m) = B (key.take n ++ (rest.drop 4).take m) := add_B _ _
      have hroom : ¬ (9223372036854775807 < (key.take n).length + ((rest.drop 4).take m).length) := by simp only [List.length_take, List.length_drop]; omega
      have hkyl : (key.take n ++ (rest.drop 4).take m).length ≤ key.length + m := by simp only [List.length_append, List.length_take, List.length_drop]; omega
      go_wp2_with fail
      go_quiet (fail)
      generalize hw4 : (w3.drewN _ : World) = w4
      have oW : Old w3 w4 := by rw [← hw4]; exact (Old.re _).dn _
      have o4 := o3.tr oW
      have ho4 := ho3.old oW
      clear hw4 o3 ho3 oW x1 x2 x3 hroom y1 e1 e2 c1
      generalize key.take n ++ (rest.drop 4).take m = ky at *
      go_wp2_with fail
      refine (rfromKey_any ky _ (by omega)).mono ?_
      rintro e w5 ⟨rfl, k5⟩
      have o5 := o4.tr k5
      have ho5 := ho4.old k5
      clear k5 o4 ho4
      have hrl : (rest.drop (4 + m)).length = rest.length - (4 + m) := by simp
      have xd : (B rest).extract (4 + m) rest.length = B (rest.drop (4 + m)) := ext_drop _ _ _ (Nat.le_refl _)
      generalize rest.drop (4 + m) = r2 at *
      have h2 : 2 ≤ r2.length := by omega
      have HT := Lib.hid (show r2 = r2[0] :: r2[1] :: r2.drop 2 by rw [← List.drop_eq_getElem_cons (by omega), ← List.drop_eq_getElem_cons (by omega)]; rfl)
      have hv := r2[1].toNat_lt
      have i1 : (B r2)[1]'(sz_lt h2 (by decide)) = r2[1]'(Nat.lt_of_lt_of_le (by decide) h2) := rfl
      have i0 : (B r2)[0]'(sz_lt h2 (by decide)) = r2[0]'(Nat.lt_of_lt_of_le (by decide) h2) := rfl
      have g1 : (1 : Int) < (r2.length : Int) := by omega
      have g0 : (0 : Int) < (r2.length : Int) := by omega
      obtain ⟨wv1, wv2⟩ := wrap_small r2[1].toNat (by omega)
      generalize r2[0] = d at *
      generalize r2[1] = v at *
      have hql : (r2.drop 2).length = r2.length - 2 := by simp
      have HQ := Lib.hid hql
      clear hql
      cases hfk : fromK ky with
      | none =>
        have HN := Lib.hid (HF.out.bad hkN (by rw [HR2.out, hfk]; rfl))
        rw [show fromV ky = .tuple #[.agg zeroCell, .int .i64 1] by simp [fromV, hfk]]
        have o6 := o5.al (.cells zeroCell 34)
        go_wp2
        go_ret2
        exact none_ans HN.out o6
      | some x =>
        rw [show fromV ky = .tuple #[cv x, .int .i64 0] by simp [fromV, hfk]]
        have HR3 := Lib.hid (show rstep key rest = if (r2.drop 2).length < v.toNat then none else some (ky, ⟨x.row, x.col, x.ts, x.seq, d == 1, (r2.drop 2).take v.toNat⟩, (r2.drop 2).drop v.toNat) by
          rw [HR2.out, hfk]; exact rtail_at ky x r2 d v HT.out)
        clear hfk
        have o6 := o5.al (.cells (cells x) 34)
        have ho6 := ho5.old (old_alloc w5 (.cells (cells x) 34))
        have b6 := new_bk w5 34 (cells x)
        have hge := o5.size
        have hng := Lib.hid (own_not_new ho5)
        go_upto_region 19 with (fail)
        generalize w5.alloc (.cells (cells x) 34) = w6 at *
        generalize w5.heap.size = g at *
        have HKR := Lib.hid hkr
        have HKN := Lib.hid hkN
        have HOL := Lib.hid hol
        have HYL := Lib.hid hkyl
        have HRL := Lib.hid hrl
        have HC2 := Lib.hid c2
        clear hix
        clear o5 ho5 hkr hkN hol hkyl hrl c2 hs hz h0 hpos hne h1l hb hnl hml hk hI y2 y3 y4 y5 y6 h4 d4 hr4 wv1 xd
        by_cases hqv : r2.length < 2 + v.toNat
        · have hc : (r2.drop 2).length < v.toNat := by rw [HQ.out]; exact sub_lt2 h2 hqv
          have HN := Lib.hid (HF.out.bad HKN.out (by rw [HR3.out, if_pos hc]))
          clear hc
          have ed := int_lt2 hqv
          go_wp2
          go_ret2
          exact none_ans HN.out o6
        have hc : ¬ (r2.drop 2).length < v.toNat := by rw [HQ.out]; exact sub_ge2 hqv
        have HR4 := Lib.hid (show rstep key rest = some (ky, ⟨x.row, x.col, x.ts, x.seq, d == 1, (r2.drop 2).take v.toNat⟩, (r2.drop 2).drop v.toNat) by rw [HR3.out, if_neg hc])
        clear hc
        clear HR3
        have ed := int_ge2 hqv
        have HXO := Lib.hid (rstep_ok HR4.out)
        have HM := Lib.hid (HF.out.more HKN.out HR4.out)
        have u1 := int_le2 hqv
        obtain ⟨u2', u3', u4'⟩ := int_two v.toNat
        have xv : (B r2).extract 2 (2 + v.toNat) = B ((r2.drop 2).take v.toNat) := by rw [ext_B, Nat.add_sub_cancel_left]
        have xr : (B r2).extract (2 + v.toNat) r2.length = B ((r2.drop 2).drop v.toNat) := by rw [ext_drop _ _ _ (Nat.le_refl _), List.drop_drop]
        have hd1 := del_one d
        generalize (r2.drop 2).take v.toNat = vl at *
        generalize (r2.drop 2).drop v.toNat = rs at *
        go_upto_region 21 with (fail)
        have f6 := b6.fr
        obtain ⟨z0, z1, z2, z3, z4, z5⟩ := b6.six
        have g6 := b6.lt
        have hgw : w.heap.size ≤ g := hge
        go_upto_region 23 with (fail)
        have b7 : Bk ((w6.setCell ⟨g, 4, none⟩ (.bool (d == 1))).setCell ⟨g, 5, none⟩ (.string (B vl))) g 34 (cells ⟨x.row, x.col, x.ts, x.seq, d == 1, vl⟩) := (b6.set_ 4 _).set_ 5 _
        have o7 : Old w ((w6.setCell ⟨g, 4, none⟩ (.bool (d == 1))).setCell ⟨g, 5, none⟩ (.string (B vl))) := (o6.st hgw _).st hgw _
        have ho7 := (ho6.farg hng.out 4 (.bool (d == 1))).farg hng.out 5 (.string (B vl))
        generalize (w6.setCell ⟨g, 4, none⟩ (.bool (d == 1))).setCell ⟨g, 5, none⟩ (.string (B vl)) = w7 at *
        clear o6 ho6 b6 f6 z0 z1 z2 z3 z4 z5 g6 hng
        generalize (⟨x.row, x.col, x.ts, x.seq, d == 1, vl⟩ : Cel) = c at *
        obtain ⟨z0, z1, z2, z3, z4, z5⟩ := b7.six
        have hk64 := wrap_k1 HKN.out b.toNat_lt
        have hol2 : out.length + 1 ≤ 100000 := len_small HOL.out HKN.out b.toNat_lt
        go_wp2_with (at_builtin; refine b_wp_cels rfl (.tmp 101) (.tmp 103) rfl (W0 := w) (o7.al _) _ out [c] rfl (ho7.old (old_alloc _ _)) w7.heap.size 0 1 1 rfl rfl (cels_one (new_bk _ _ _)) hol2 ?_; intro v8 w8 n8 o8)
        go_roundw
        case rel =>
          have hkn := HKN.out
          have hb9 := b.toNat_lt
          refine ⟨k + 1, ky, rs, out ++ [c], hkn, rfl, rfl, by go_num, n8, o8, by simp [HOL.out], ?_, Lib.hid ?_, HM⟩
          · exact Nat.le_trans (Nat.le_trans (Nat.le_add_right _ 6) (show ky.length + rs.length + 6 ≤ key.length + rest.length from HXO.out.2)) HKR.out
          · intro e he
            rcases List.mem_append.1 he with he | he
            · exact HO.out e he
            · rw [List.mem_singleton.1 he]; exact HXO.out.1
        case measure => first | exact meas3 HKN.out b.toNat_lt | exact meas2 HKN.out b.toNat_lt
    · have hI : decide ((k : Int) < (b.toNat : Int)) = false := by simp; omega
      have hkN2 : k = b.toNat := by omega
      have hol3 : out.length ≤ 1000000000 := by omega
      subst hkN2
      have HL := Lib.hid (HF.out.last HO.out)
      obtain ⟨A, cap, rfl⟩ := ho.form2
      clear HF hkr hol
      go_wp2_with fail
      refine (rbuild_at _ out _ ho.cels HO.out hol3).mono ?_
      rintro e w1 ⟨rfl, k1⟩
      have o1 := hw.tr k1
      have ho1 := ho.old k1
      clear k1 hw ho
      by_cases he : errB out = 0
      case neg =>
        rw [buildV_no rfl he]
        have hne2 : (errB out != 0) = true := by simpa using he
        have HN := Lib.hid (show parseO s = none by rw [HL.out, if_neg (fun h => he h.1)])
        go_wp2
        go_ret2
        exact none_ans HN.out o1
      rw [buildV_yes he]
      by_cases hs2 : blk out = s
      case neg =>
        have HN := Lib.hid (show parseO s = none by rw [HL.out, if_neg (fun h => hs2 h.2)])
        have hbe : (blk out == s) = false := by simpa using hs2
        go_wp2
        go_ret2
        exact none_ans HN.out o1
      have HP := Lib.hid (show parseO s = some out by rw [HL.out, if_pos ⟨he, hs2⟩])
      rw [hs2]
      go_wp2
      go_ret2
      refine ⟨.slice A out.length cap, ?_, by rw [HP.out]; exact ⟨_, ho1⟩, o1⟩
      show Ending.returned (.tuple #[.slice A out.length cap, .int .i64 0]) = _
      unfold parseE
      rw [HP.out]
end Go.Proofs.YtlmlopdakbbbjaaGreatDoor

namespace Go.Proofs.YtlmlopdakbbbjaaGreatDoor
open Go.RowKit

theorem fA_sum (t : List UInt8) (h : 4 ≤ t.length) : lowV (t.take 4) = t[0].toNat + 256 * t[1].toNat + 65536 * t[2].toNat + 16777216 * t[3].toNat := by
  match t, h with
  | a :: b :: c :: d :: r, _ => simp [lowV]; omega
/-- A file's blocks are all that is ahead of its index. -/
theorem took_opened {s : List UInt8} {l : List Cel} {q : Nat} (h : openO s = some (l, q)) : took (allV (s.take (fA s))) = fA s := by
  obtain ⟨he, hok, htb, -⟩ := openO_some h
  obtain ⟨f1, -⟩ := opened h
  have h3 := (errT_zero.1 he).2.2.1
  have htk : s.take (fA s) = allB l := by
    rw [f1, ← htb]
    unfold tbl
    rw [List.append_assoc, List.append_assoc, List.take_left' rfl]
  have h4 : allV (allB l) = (parts l).map blk := by
    have := allV_puts (ts := (parts l).map blk) (by
      intro t ht
      obtain ⟨p, hp, rfl⟩ := List.mem_map.1 ht
      have := blk_len8 p (h3 p hp) (parts_each l p hp).2.1
      omega)
    rw [List.map_map] at this
    exact this
  have h5 : ∀ ts : List (List UInt8), took ts = ((ts.map put).flatten).length := by
    intro ts
    induction ts with
    | nil => rfl
    | cons t ts ih => rw [took_cons, ih, List.map_cons, List.flatten_cons, List.length_append, put_length]
  rw [htk, h4, h5, f1, List.map_map]
  rfl
/-- append(v, x..) of own cells, beside a block that is not v's. -/
theorem wp_celsK {ops : Array Oper} {rest : List Oper} {op : Oper} {a : Act} {Q : Exit → Act → World → Prop} {W0 w : World} (hgd : op.guard = none) (s x : Operand)
    (ho : op.op = .call { callee := .builtin .append, args := #[s, x], argTypes := #[22, 22] })
    (o : Old W0 w) (v : Value) (xs news : List Cel) (hs : a.eval s = v) (hown : OwnC w W0.heap.size v xs) (base : Nat) (xv : Value) (hx : a.eval x = xv) (hnw : OwnC w base xv news) (hlen : xs.length + news.length ≤ 100000) (b : Nat) (hb : b < w.heap.size) (hne : some b ≠ v.ownBlock)
    (h : ∀ v' w', OwnC w' W0.heap.size v' (xs ++ news) → Old W0 w' → w'.heap[b]? = w.heap[b]? → b < w'.heap.size → some b ≠ v'.ownBlock → wpList Tryz.prog ops Q rest (a.put op.dst v') w') : wpList Tryz.prog ops Q (op :: rest) a w := by
  obtain ⟨i0, hi, hz0, hz1, hz2⟩ := info_parts Tryz.infoCell
  have hc := hnw.cels
  rcases hnw.2 with ⟨rfl, h0⟩ | ⟨g, cap, cur, rfl, _⟩
  · have hn : news = [] := List.eq_nil_of_length_eq_zero h0
    subst hn
    have hr := run_append_owned_none (P := Tryz.prog) w W0.heap.size 22 op.type 34 i0 6 Tryz.underlying22 hi v xs.length (flat xs) hown
    refine wpList_plain hgd fun K hK => ?_
    unfold Oper.wp execOp
    simp only [ho, resolve, invoke, builtin, Sem.run_bind, Sem.run_pure, Result.andThen_ok, List.map_toArray, List.map_cons, List.map_nil, hs, hx, hr]
    exact hK _ _ (h v w (by rw [List.append_nil]; exact hown) o rfl hb hne)
  · have hC : CelsAt w g 0 news := by
      rcases hc with ⟨rfl, -⟩ | ⟨b, off, cap', e, h⟩
      · intro i c hc; simp at hc
      · injection e with e1 e2 e3
        injection e1 with e1
        injection e1 with e4 e5
        subst e4 e5
        exact h
    obtain ⟨v', w', hr, h2, h3, -, h5⟩ := run_append_own_at (P := Tryz.prog) w W0.heap.size 22 op.type 34 i0 (.agg zeroCell) 6 72 Tryz.underlying22 hi hz0 hz1 hz2 rfl (by decide) v xs.length (flat xs) hown ⟨g, 0, none⟩ news.length cap (flat news) (flat_len _) (cels_news hC) (flat_one _) (by unfold maxLen; omega) (by omega) o.size
    have oW := o.trans ((Below.refl _ _).grown h3 o.size (fun k hk => (World.ownsRow.lt hown k hk).1))
    obtain ⟨g1, g2, g3, g4, g5⟩ := h3
    refine wpList_plain hgd fun K hK => ?_
    unfold Oper.wp execOp
    simp only [ho, resolve, invoke, builtin, Sem.run_bind, Sem.run_pure, Result.andThen_ok, List.map_toArray, List.map_cons, List.map_nil, hs, hx, hr]
    refine hK _ _ (h v' w' ?_ oW (g5 b hb hne) (Nat.lt_of_lt_of_le hb g4) ?_)
    · unfold OwnC
      rw [flat_app, List.length_append]
      exact h2
    · rcases h5 with e | e
      · rw [e]; exact hne
      · rw [e]
        intro e2
        injection e2 with e2
        omega
theorem cell_same {w w' : World} {b o : Nat} {u : Value} (h : w.cell? ⟨b, o, none⟩ = some u) (e : w'.heap[b]? = w.heap[b]?) : w'.cell? ⟨b, o, none⟩ = some u := by
  rw [← h]
  unfold World.cell?
  simp only [e]
/-- What the reference's Open answers. -/
def ROpenP (s : List UInt8) (w : World) (e : Ending) (w' : World) : Prop := Old w w' ∧ ((openO s = none ∧ e = .returned (.tuple #[.slice none 0 0, .int .u64 0, .int .i64 (openE s)])) ∨
  ∃ l q v base, openO s = some (l, q) ∧ e = .returned (.tuple #[v, .int .u64 q, .int .i64 0]) ∧ OwnC w' base v l)
theorem ROpenP.none {s : List UInt8} {w w' : World} {e : Ending} {x : Int} (o : Old w w') (h : openO s = none) (hx : openE s = x) (he : e = .returned (.tuple #[.slice none 0 0, .int .u64 0, .int .i64 x])) : ROpenP s w e w' := ⟨o, .inl ⟨h, by rw [he, hx]⟩⟩
theorem footE_len {s : List UInt8} (h26 : 26 ≤ s.length) (h0 : (footB s).2.2 = 0) : (footB s).2.1 = 6 + (footB s).1.length ∧ (footB s).1.length ≤ 20 := by
  have h := getV_ok (l := s.drop (s.length - 26)) h0
  have h2 : (s.drop (s.length - 26)).length = 26 := by simp; omega
  rw [h2] at h
  unfold footB at *
  omega
theorem lowV_drop (r : List UInt8) (j : Nat) (h : j < r.length) : lowV (r.drop j) = r[j].toNat + 256 * lowV (r.drop (j + 1)) := by
  rw [List.drop_eq_getElem_cons h]; rfl
theorem lowV_dl (r : List UInt8) (j : Nat) (h : r.length = 8) (hj : j < 8) : lowV (r.drop (j + 1)) < 72057594037927936 := by
  have h1 := lowV_lt (r.drop (j + 1))
  rw [List.length_drop, h] at h1
  have h2 : 256 ^ (8 - (j + 1)) ≤ 256 ^ 7 := Nat.pow_le_pow_right (by omega) (by omega)
  have h3 : (256 : Nat) ^ 7 = 72057594037927936 := by decide
  omega
set_option maxRecDepth 100000 in
set_option maxHeartbeats 8000000 in
theorem ropen_any (s : List UInt8) (hs : s.length ≤ 5000) (w : World) :
    Calls Tryz.prog 12 #[.string (B s)] w (ROpenP s w) := by
  by_cases h1 : s.length < 26
  · have d1 : decide ((s.length : Int) < 26) = true := by simp; omega
    have HN := Lib.hid (openE_20 (s := s) (by unfold footE; rw [if_pos (.inl h1)]))
    go_enter Tryz.func12, Tryz.ntmps12
    go_wp2
    go_ret3
    exact ROpenP.none (Old.re _) HN.out.2 HN.out.1 rfl
  have h26 : 26 ≤ s.length := by omega
  have d1 : decide ((s.length : Int) < 26) = false := by simp; omega
  have xt : (B s).extract (s.length - 26) s.length = B (s.drop (s.length - 26)) := ext_drop _ _ _ (Nat.le_refl _)
  have hxl : (s.drop (s.length - 26)).length ≤ 1000000 := by simp; omega
  obtain ⟨t, n, e, hg⟩ : ∃ t n e, footB s = (t, n, e) := ⟨_, _, _, rfl⟩
  have HG := Lib.hid (getR_of (l := s.drop (s.length - 26)) hg)
  have HT := Lib.hid (footE_len (s := s) h26)
  rw [hg] at HT
  go_enter Tryz.func12, Tryz.ntmps12
  go_wp2_with fail
  refine (rget_any (s.drop (s.length - 26)) hxl _).mono ?_
  rintro e' w1 ⟨rfl, k1⟩
  rw [HG.out]
  have o1 := k1
  clear xt hxl
  by_cases he : e = 0
  case neg =>
    have de : ((e : Int) != 0) = true := by rw [bne_iff_ne]; omega
    have HN := Lib.hid (openE_20 (s := s) (by unfold footE; rw [if_pos (.inr (by rw [hg]; exact he))]))
    go_wp2
    go_ret3
    exact ROpenP.none o1 HN.out.2 HN.out.1 rfl
  subst he
  obtain ⟨hn, ht20⟩ := HT.out rfl
  have hE0 : footE s ≠ 20 := by unfold footE; rw [if_neg (by rw [hg]; simp; omega)]; split <;> decide
  by_cases h20 : t.length = 20
  case neg =>
    have dl : ((t.length : Int) != 20) = true := by rw [bne_iff_ne]; omega
    have HN := Lib.hid (openO_50 (s := s) (by unfold footE; rw [if_neg (by rw [hg]; simp; omega), if_pos (by rw [hg]; show n < 26; omega)]))
    have HN2 := Lib.hid (openE_no hE0 HN.out)
    go_wp2
    go_ret3
    exact ROpenP.none o1 HN.out HN2.out rfl
  have dl : ((t.length : Int) != 20) = false := by rw [h20]; rfl
  have hfe0 : footE s = 0 := by unfold footE; rw [if_neg (by rw [hg]; simp; omega), if_neg (by rw [hg]; show ¬ n < 26; omega)]
  have HF := Lib.hid (openO_form hfe0)
  have H50 := Lib.hid (openE_no hE0)
  have HFA := Lib.hid (show fA s = t[0].toNat + 256 * t[1].toNat + 65536 * t[2].toNat + 16777216 * t[3].toNat by unfold fA; rw [hg]; exact fA_sum t (by omega))
  have HFS := Lib.hid (show fS s = lowV (t.drop 12) by unfold fS; rw [hg])
  have HTK := Lib.hid (fun (l : List Cel) (q : Nat) (h : openO s = some (l, q)) => took_opened h)
  have hr8 : (t.drop 12).length = 8 := by simp; omega
  clear hg HG HT hfe0 hE0 hn ht20
  have b0 := t[0].toNat_lt
  have b1 := t[1].toNat_lt
  have b2 := t[2].toNat_lt
  have b3 := t[3].toNat_lt
  go_wp2_with fail
  go_loopw [8, 9] (fun vs vi wr => ∃ m : Nat, m ≤ 8 ∧ vi = .int .i64 ((m : Int) - 1) ∧ vs = .int .u64 (lowV ((t.drop 12).drop m) : Nat) ∧ w1 = wr) (fun _ i _ => (intOf i + 1).toNat)
  case atStart => exact ⟨8, by omega, rfl, by rw [List.drop_of_length_le (by omega)]; rfl, rfl⟩
  case round =>
    obtain ⟨m, hm, rfl, rfl, rfl⟩ := hrel
    cases m with
    | succ j =>
      have hj8 : j < 8 := by omega
      have hji : ((j + 1 : Nat) : Int) - 1 = (j : Int) := by omega
      have HLd := Lib.hid (lowV_drop (t.drop 12) j (by omega))
      have hlt := lowV_dl (t.drop 12) j hr8 hj8
      have hix : (B t)[12 + j]'(by simp [ByteArray.size]; omega) = t[12 + j]'(by omega) := rfl
      have hge : (t.drop 12)[j]'(by omega) = t[12 + j]'(by omega) := by simp
      rw [hge] at HLd
      have hb := (t[12 + j]'(by omega)).toNat_lt
      generalize t[12 + j]'(by omega) = bj at *
      generalize lowV ((t.drop 12).drop (j + 1)) = x at *
      rw [hji]
      have i1 : (12 : Int) + (j : Int) < (t.length : Int) := by omega
      have i2 : ((12 : Int) + (j : Int)).toNat = 12 + j := by omega
      clear b0 b1 b2 b3
      go_wp2
      go_roundw
      case rel => exact ⟨j, by omega, by go_num, by rw [HLd.out]; congr 1; omega, trivial⟩
      case measure => simp [intOf]
    | zero =>
      have hz1 : ((0 : Nat) : Int) - 1 = -1 := by omega
      rw [hz1, List.drop_zero, ← HFS.out]
      have hS : fS s < 18446744073709551616 := by
        rw [HFS.out]
        have := lowV_lt (t.drop 12)
        rw [hr8] at this
        exact this
      have x0 : (B t)[0]'(by simp [ByteArray.size]; omega) = t[0]'(by omega) := rfl
      have x1 : (B t)[1]'(by simp [ByteArray.size]; omega) = t[1]'(by omega) := rfl
      have x2 : (B t)[2]'(by simp [ByteArray.size]; omega) = t[2]'(by omega) := rfl
      have x3 : (B t)[3]'(by simp [ByteArray.size]; omega) = t[3]'(by omega) := rfl
      generalize t[0]'(by omega) = c0 at *
      generalize t[1]'(by omega) = c1 at *
      generalize t[2]'(by omega) = c2 at *
      generalize t[3]'(by omega) = c3 at *
      have j0 : (0 : Int) < (t.length : Int) := by omega
      have j1 : (1 : Int) < (t.length : Int) := by omega
      have j2 : (2 : Int) < (t.length : Int) := by omega
      have j3 : (3 : Int) < (t.length : Int) := by omega
      have hfa := HFA.out
      have za : (c0.toNat : Int) + (256 : Int) * (c1.toNat : Int) + (65536 : Int) * (c2.toNat : Int) + (16777216 : Int) * (c3.toNat : Int) = (fA s : Int) := by omega
      have hA32 : fA s < 4294967296 := by omega
      clear hfa
      go_wp2_with fail
      go_quiet (fail)
      generalize hw2 : (w1.drewN _ : World) = w2
      have o2 : Old w w2 := by rw [← hw2]; exact o1.dn _
      clear hw2 o1
      clear x0 x1 x2 x3 j0 j1 j2 j3 za b0 b1 b2 b3 HFA HFS hr8
      have hu := u64_id s.length (by omega)
      by_cases ha : s.length < fA s
      · have HN := Lib.hid (show openO s = none by unfold openO; rw [if_pos (by omega)])
        have da : decide ((s.length : Int) < (fA s : Int)) = true := by simp; omega
        go_wp2
        go_ret3
        exact ROpenP.none o2 HN.out (H50.out HN.out) rfl
      have da : decide ((s.length : Int) < (fA s : Int)) = false := by simp; omega
      have ha1 : fA s ≤ s.length := by omega
      have ha2 : (fA s : Int) ≤ (s.length : Int) := by omega
      have HF2 := Lib.hid (HF.out ha1)
      have xa : (B s).extract 0 (fA s) = B (s.take (fA s)) := ext_take _ _
      have hal : (s.take (fA s)).length ≤ 1000000 := by simp; omega
      have hE : OwnC (w2.alloc (.cells #[] 34)) w2.heap.size (.slice (some ⟨w2.heap.size, 0, none⟩) 0 0) [] := own_empty (new_bk _ _ _) (Nat.le_refl _)
      have oE := old_alloc w2 (.cells #[] 34)
      have hBE := new_bk w2 34 #[]
      clear HF
      go_wp2_with fail
      generalize w2.alloc (.cells #[] 34) = w3 at *
      have hgs : (.slice (some ⟨w2.heap.size, 0, none⟩) 0 0 : Value) = .slice (some ⟨w2.heap.size, 0, none⟩) 0 0 := rfl
      refine (rall_any (s.take (fA s)) hal _).mono ?_
      rintro e w4 ⟨A, cap, rfl, hSt, k4⟩
      have o4 := (o2.tr oE).tr k4
      have hE4 := hE.old k4
      have oE4 := oE.tr k4
      have hB4 := hBE.old k4
      have hta := took_all (s.take (fA s))
      have hsm := allV_small (s.take (fA s))
      have htn := allV_len (s.take (fA s))
      have htl2 : (s.take (fA s)).length ≤ 5000 := by simp; omega
      clear hgs hE oE k4 xa hal da
      generalize hqs : allV (s.take (fA s)) = ts at *
      clear hqs
      have hu2 := u64_id (took ts) (by omega)
      by_cases htk : took ts = fA s
      case neg =>
        have HN := Lib.hid (show openO s = none by
          cases hx : openO s with
          | none => rfl
          | some x => exact absurd (HTK.out x.1 x.2 hx) htk)
        have dk : (((took ts : Nat) : Int) != (fA s : Int)) = true := by rw [bne_iff_ne]; omega
        go_wp2
        go_ret3
        exact ROpenP.none o4 HN.out (H50.out HN.out) rfl
      have dk : (((took ts : Nat) : Int) != (fA s : Int)) = false := by rw [htk]; simp
      by_cases hts : ts.length = 0
      · have hnil : ts = [] := List.eq_nil_of_length_eq_zero hts
        subst hnil
        have hs0 : s ≠ [] := by rintro rfl; simp at h26
        have HN := Lib.hid (show openO s = none by
          rw [HF2.out]
          show (if buildT [] (fS s) = s then some ([], fS s) else none) = none
          rw [if_neg]
          intro e
          exact hs0 e.symm)
        have HB := Lib.hid (show buildTV [] (fS s) = .tuple #[.string ⟨#[]⟩, .int .i64 1] from rfl)
        go_wp2_with fail
        refine wp_loop_rounds 1 ?_
        rw [rounds_succ]
        go_wp2_with fail
        refine (rbuild5_any _ [] (fS s) _ ⟨_, _, rfl, Nat.le_refl _, fun h => absurd rfl h⟩ (by simp) (by simp) hS).mono ?_
        rintro e w5 ⟨rfl, k5⟩
        rw [HB.out]
        go_wp2
        go_ret3
        exact ROpenP.none (o4.tr k5) HN.out (H50.out HN.out) rfl
      obtain ⟨-, bS, oS, rfl, hc0⟩ := hSt.at_ 0 (by omega)
      have hbS : bS < w4.heap.size := World.block_lt_of_cell? w4 ⟨bS, oS + 0, none⟩ hc0
      have hnS : some bS ≠ (.slice (some ⟨w2.heap.size, 0, none⟩) 0 0 : Value).ownBlock := by
        intro e
        have e : bS = w2.heap.size := by simpa [Value.ownBlock] using e
        rw [e, (hB4.cell _)] at hc0
        simp at hc0
      go_wp2_with fail
      go_loopw [11, 14] (fun vl i wr => ∃ (k : Nat) (l : List Cel), k ≤ ts.length ∧ i = .int .i64 k ∧ Hid (cellsO (ts.take k) = some l) ∧ OwnC wr w2.heap.size vl l ∧ Old w2 wr ∧ Strs wr (some ⟨bS, oS, none⟩) cap ts ∧ bS < wr.heap.size ∧ some bS ≠ vl.ownBlock) (fun _ i _ => ts.length - (intOf i).toNat)
      case atStart => exact ⟨0, [], Nat.zero_le _, rfl, Lib.hid rfl, hE4, oE4, hSt, hbS, hnS⟩
      case round =>
        obtain ⟨k, l, hk, rfl, HC, ho, hw, hSr, hbr, hnr⟩ := hrel
        by_cases hlt : k < ts.length
        · obtain ⟨-, b, off, e0, hc⟩ := hSr.at_ k hlt
          injection e0 with e0
          injection e0 with e1 e2
          subst e1 e2
          have HT := Lib.hid (show ts.take (k + 1) = ts.take k ++ [ts[k]] from List.take_succ_eq_append_getElem hlt)
          have HM := Lib.hid (List.getElem_mem hlt)
          have h16 := hsm _ HM.out
          generalize ts[k] = tt at *
          have i1 : (k : Int) < (ts.length : Int) := by omega
          go_wp2_with fail
          refine (rparse_any tt (by omega) _).mono ?_
          rintro e w5 ⟨vp, rfl, ⟨base, hp⟩, k5⟩
          cases hpo : parseO tt with
          | none =>
            have HN := Lib.hid (show openO s = none by rw [HF2.out, cellsO_none HM.out hpo])
            rw [show parseE tt = 50 by unfold parseE; rw [hpo]]
            obtain ⟨Ap, np, cp, rfl⟩ := hp.form
            go_wp2
            go_ret3
            exact ROpenP.none (o2.tr (hw.tr k5)) HN.out (H50.out HN.out) rfl
          | some p =>
            rw [hpo, Option.getD_some] at hp
            rw [show parseE tt = 0 by unfold parseE; rw [hpo]]
            have HC2 := Lib.hid (show cellsO (ts.take (k + 1)) = some (l ++ p) by rw [HT.out, cellsO_snoc, HC.out, hpo]; rfl)
            have hln := cellsO_len HC2.out
            have htt := took_take ts (k + 1)
            rw [List.length_append] at hln
            have o5 := hw.tr k5
            have ho5 := ho.old k5
            have hS5 := hSr.old k5
            have hb5 : bS < w5.heap.size := Nat.lt_of_lt_of_le hbr k5.size
            obtain ⟨Ap, np, cp, rfl⟩ := hp.form
            go_wp2_with (at_builtin; refine wp_celsK rfl (.tmp 100) (.tmp 101) rfl (W0 := w2) o5 _ l p rfl ho5 base _ rfl hp (by omega) bS hb5 hnr ?_; intro v6 w6 n6 o6 hh6 hb6 hn6)
            go_roundw
            case rel =>
              refine ⟨k + 1, l ++ p, by omega, by go_num, HC2, n6, o6, ⟨hS5.1, fun i x hx => ?_⟩, hb6, hn6⟩
              obtain ⟨hx1, b', off', e0, hx2⟩ := hS5.2 i x hx
              injection e0 with e0
              injection e0 with e1 e2
              subst e1 e2
              exact ⟨hx1, _, _, rfl, cell_same hx2 hh6⟩
            case measure => simp [intOf]; omega
        · have e : k = ts.length := by omega
          subst e
          rw [List.take_length] at HC
          have hln := cellsO_len HC.out
          have hok := cellsO_ok HC.out
          have HF3 := Lib.hid (show openO s = if buildT l (fS s) = s then some (l, fS s) else none by rw [HF2.out, HC.out])
          have hs0 : s ≠ [] := by rintro rfl; simp at h26
          have hCC := ho.room
          have ow := o2.tr hw
          obtain ⟨Al, cl, rfl, -⟩ := ho.room
          clear hSr hbr hnr hnS hbS hc0 hSt hB4 hE4 oE4
          go_wp2_with fail
          refine (rbuild5_any _ l (fS s) _ hCC hok (by omega) hS).mono ?_
          rintro e w7 ⟨rfl, k7⟩
          have o7 := ow.tr k7
          have ho7 := ho.old k7
          by_cases he : errT l = 0
          case neg =>
            rw [buildTV_no (fS s) rfl he]
            have hne : (errT l != 0) = true := by simpa using he
            have HN := Lib.hid (show openO s = none by
              rw [HF3.out, if_neg]
              intro e
              rw [show buildT l (fS s) = [] by unfold buildT; rw [if_neg he]] at e
              exact hs0 e.symm)
            go_wp2
            go_ret3
            exact ROpenP.none o7 HN.out (H50.out HN.out) rfl
          rw [buildTV_yes (fS s) he]
          have hbt : buildT l (fS s) = tbl l (fS s) := by unfold buildT; rw [if_pos he]
          by_cases hq : tbl l (fS s) = s
          · have HO := Lib.hid (show openO s = some (l, fS s) by rw [HF3.out, hbt, if_pos hq])
            rw [hq]
            go_wp2
            go_ret3
            exact ⟨o7, .inr ⟨l, fS s, _, _, HO.out, rfl, ho7⟩⟩
          · have HN := Lib.hid (show openO s = none by rw [HF3.out, hbt, if_neg hq])
            have hbe : (tbl l (fS s) == s) = false := by simpa using hq
            go_wp2
            go_ret3
            exact ROpenP.none o7 HN.out (H50.out HN.out) rfl
end Go.Proofs.YtlmlopdakbbbjaaGreatDoor
