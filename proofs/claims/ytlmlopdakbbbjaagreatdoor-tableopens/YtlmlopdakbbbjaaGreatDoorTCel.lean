/-
  The cells of a text's blocks: cellsOf of table. Conditions: the table is laid; lengths as written.
-/
import Derived.Test.YtlmlopdakbbbjaaGreatDoorTBld
import Derived.Laws.OwnMore
namespace Go.Proofs.YtlmlopdakbbbjaaGreatDoor
open Go.RowKit

theorem cels_news {w : World} {b off : Nat} {l : List Cel} (h : CelsAt w b off l) : ∀ j u, (flat l)[j]? = some u → w.cell? ((⟨b, off, none⟩ : Addr).add j) = some u := by
  intro j u hu
  rw [Addr.add_lit]
  have hj : j < l.length * 6 := by rw [← flat_len]; exact (List.getElem?_eq_some_iff.1 hu).1
  have hi : j / 6 < l.length := by omega
  have e := flat_at l (j / 6) (j % 6) l[j / 6] (List.getElem?_eq_getElem hi) (by omega)
  rw [show j / 6 * 6 + j % 6 = j by omega, hu] at e
  have hx := (h.at_ (j / 6) hi).held
  generalize l[j / 6] = c at *
  have e6 : j % 6 = 0 ∨ j % 6 = 1 ∨ j % 6 = 2 ∨ j % 6 = 3 ∨ j % 6 = 4 ∨ j % 6 = 5 := by omega
  obtain ⟨x0, x1, x2, x3, x4, x5⟩ := hx
  rcases e6 with g | g | g | g | g | g
  · rw [g] at e; rw [show off + j = off + j / 6 * 6 by omega, x0]; exact e.symm
  · rw [g] at e; rw [show off + j = off + j / 6 * 6 + 1 by omega, x1]; exact e.symm
  · rw [g] at e; rw [show off + j = off + j / 6 * 6 + 2 by omega, x2]; exact e.symm
  · rw [g] at e; rw [show off + j = off + j / 6 * 6 + 3 by omega, x3]; exact e.symm
  · rw [g] at e; rw [show off + j = off + j / 6 * 6 + 4 by omega, x4]; exact e.symm
  · rw [g] at e; rw [show off + j = off + j / 6 * 6 + 5 by omega, x5]; exact e.symm
theorem flat_one (l : List Cel) : ∀ u ∈ flat l, u.oneCell' = true := by
  intro u hu
  obtain ⟨c, -, hc⟩ := List.mem_flatMap.1 hu
  simp at hc
  rcases hc with rfl | rfl | rfl | rfl | rfl | rfl <;> rfl
theorem flat_app (l m : List Cel) : flat (l ++ m) = flat l ++ flat m := by simp [flat]
/-- append(v, x..) of cells: what comes of it. -/
theorem run_cels {W0 w : World} {v x : Value} {xs news : List Cel} {base : Nat} (o : Old W0 w) (hown : OwnC w W0.heap.size v xs) (hx : OwnC w base x news) (hlen : xs.length + news.length ≤ 100000) (ty : TypeId) :
    ∃ v' w', (Builtin.append_ #[22, 22] ty #[v, x]).run Tryz.prog w = .ok v' w' ∧ OwnC w' W0.heap.size v' (xs ++ news) ∧ Old W0 w' ∧ (∀ g t cs, Bk w g t cs → some g ≠ v.ownBlock → Bk w' g t cs) := by
  obtain ⟨i0, hi, hz0, hz1, hz2⟩ := info_parts Tryz.infoCell
  have hc := hx.cels
  rcases hx.2 with ⟨rfl, h0⟩ | ⟨g, cap, cur, rfl, _⟩
  · have hn : news = [] := List.eq_nil_of_length_eq_zero h0
    subst hn
    refine ⟨v, w, run_append_owned_none (P := Tryz.prog) w W0.heap.size 22 ty 34 i0 6 Tryz.underlying22 hi v xs.length (flat xs) hown, by rw [List.append_nil]; exact hown, o, fun g t cs hb _ => hb⟩
  · have hC : CelsAt w g 0 news := by
      rcases hc with ⟨rfl, -⟩ | ⟨b, off, cap', e, h⟩
      · intro i c hc; simp at hc
      · injection e with e1 e2 e3
        injection e1 with e1
        injection e1 with e4 e5
        subst e4 e5
        exact h
    obtain ⟨v', w', hr, h2, h3, -, -⟩ := run_append_own_at (P := Tryz.prog) w W0.heap.size 22 ty 34 i0 (.agg zeroCell) 6 72 Tryz.underlying22 hi hz0 hz1 hz2 rfl (by decide) v xs.length (flat xs) hown ⟨g, 0, none⟩ news.length cap (flat news) (flat_len _) (cels_news hC) (flat_one _) (by unfold maxLen; omega) (by omega) o.size
    refine ⟨v', w', hr, ?_, o.trans ((Below.refl _ _).grown h3 o.size (fun k hk => (World.ownsRow.lt hown k hk).1)), fun g t cs hb hne => hb.grown h3 hne⟩
    unfold OwnC
    rw [flat_app, List.length_append]
    exact h2
theorem wp_cels {ops : Array Oper} {rest : List Oper} {op : Oper} {a : Act} {Q : Exit → Act → World → Prop} {W0 w : World} (hgd : op.guard = none) (s x : Operand)
    (ho : op.op = .call { callee := .builtin .append, args := #[s, x], argTypes := #[22, 22] })
    (hW : Old W0 w) (v : Value) (xs news : List Cel) (hs : a.eval s = v) (hown : OwnC w W0.heap.size v xs) (base : Nat) (xv : Value) (hx : a.eval x = xv) (hnews : OwnC w base xv news) (hlen : xs.length + news.length ≤ 100000)
    (h : ∀ v' w', OwnC w' W0.heap.size v' (xs ++ news) → Old W0 w' → wpList Tryz.prog ops Q rest (a.put op.dst v') w') : wpList Tryz.prog ops Q (op :: rest) a w := by
  obtain ⟨v', w', hr, h2, h3, h4⟩ := run_cels hW hown hnews hlen op.type
  refine wpList_plain hgd fun K hK => ?_
  unfold Oper.wp execOp
  simp only [ho, resolve, invoke, builtin, Sem.run_bind, Sem.run_pure, Result.andThen_ok, List.map_toArray, List.map_cons, List.map_nil, hs, hx, hr]
  exact hK _ _ (h v' w' h2 h3)
theorem step_cels {ops : Array Oper} {op : Oper} {a : Act} {K : Act → World → Prop} {Q : Exit → Act → World → Prop} {E : Prop} {W0 w : World} (hgd : op.guard = none) (d : Option Nat) (hd : op.dst = d) (s x : Operand)
    (ho : op.op = .call { callee := .builtin .append, args := #[s, x], argTypes := #[22, 22] })
    (hW : Old W0 w) (v : Value) (xs news : List Cel) (hs : a.eval s = v) (hown : OwnC w W0.heap.size v xs) (base : Nat) (xv : Value) (hx : a.eval x = xv) (hnews : OwnC w base xv news) (hlen : xs.length + news.length ≤ 100000)
    (h : ∀ v' w', OwnC w' W0.heap.size v' (xs ++ news) → Old W0 w' → (∀ g t cs, Bk w g t cs → some g ≠ v.ownBlock → Bk w' g t cs) → K (a.put d v') w') :
    if Region.wanted op (yielded ops a.tmps) = true then Oper.wp Tryz.prog op a w K Q else E := by
  obtain ⟨v', w', hr, h2, h3, h4⟩ := run_cels hW hown hnews hlen op.type
  have hw : Region.wanted op (yielded ops a.tmps) = true := by simp [Region.wanted, hgd]
  rw [if_pos hw]
  subst hd
  unfold Oper.wp execOp
  simp only [ho, resolve, invoke, builtin, Sem.run_bind, Sem.run_pure, Result.andThen_ok, List.map_toArray, List.map_cons, List.map_nil, hs, hx, hr]
  exact h v' w' h2 h3 h4

theorem cellsO_snoc (xs : List (List UInt8)) (t : List UInt8) : cellsO (xs ++ [t]) = (cellsO xs).bind fun l => (parseO t).map (l ++ ·) := by
  induction xs with
  | nil =>
    simp only [List.nil_append, cellsO]
    cases parseO t with
    | none => rfl
    | some p => simp
  | cons x xs ih =>
    simp only [List.cons_append, cellsO]
    cases parseO x with
    | none => rfl
    | some p =>
      simp only [ih]
      cases cellsO xs with
      | none => rfl
      | some l =>
        cases parseO t with
        | none => rfl
        | some q => simp
theorem cellsO_none {ts : List (List UInt8)} {t : List UInt8} (ht : t ∈ ts) (h : parseO t = none) : cellsO ts = none := by
  induction ts with
  | nil => simp at ht
  | cons x ts ih =>
    unfold cellsO
    rcases List.mem_cons.1 ht with rfl | ht
    · rw [h]
    · cases parseO x with
      | none => rfl
      | some p => simp [ih ht]
theorem ents_ge (l : List Cel) : ∀ (p : Nat) (last : List UInt8), 6 * l.length ≤ (entsFrom p last l).length := by
  induction l with
  | nil => intro p last; simp
  | cons c t ih =>
    intro p last
    have := ih (p + 1) (key c)
    have h6 : 6 ≤ (ent (lend p last) c).length := by
      simp only [ent, List.length_append, two, List.length_cons, List.length_nil]
      have : (flag1 c.del).length = 1 := by cases c.del <;> rfl
      omega
    simp only [entsFrom, List.length_append, List.length_cons]
    omega
theorem parseO_len {t : List UInt8} {p : List Cel} (h : parseO t = some p) : 6 * p.length ≤ t.length := by
  obtain ⟨-, -, hb⟩ := parseO_some h
  have := ents_ge p 0 []
  rw [← hb, blk, List.length_cons]
  omega
theorem took_cons (t : List UInt8) (ts : List (List UInt8)) : took (t :: ts) = 6 + t.length + took ts := by simp [took]
theorem cellsO_len {ts : List (List UInt8)} {l : List Cel} (h : cellsO ts = some l) : 6 * l.length ≤ took ts := by
  induction ts generalizing l with
  | nil => simp [cellsO] at h; subst h; simp
  | cons t ts ih =>
    unfold cellsO at h
    cases hp : parseO t with
    | none => rw [hp] at h; cases h
    | some p =>
      rw [hp] at h
      cases hc : cellsO ts with
      | none => rw [hc] at h; cases h
      | some m =>
        rw [hc] at h
        simp only [Option.map_some, Option.some.injEq] at h
        subst h
        have a := parseO_len hp
        have b := ih hc
        rw [took_cons, List.length_append]
        omega
theorem took_all (s : List UInt8) : took (allV s) ≤ s.length := by
  induction h : s.length using Nat.strongRecOn generalizing s with
  | _ n ih =>
    by_cases hg : (getV s).2.2 = 0
    · rw [allV_yes hg, took_cons]
      obtain ⟨-, h1, -⟩ := getV_ok hg
      have := ih (s.drop (6 + (getV s).1.length)).length (by simp; omega) _ rfl
      simp only [List.length_drop] at this
      omega
    · rw [allV_no hg]; simp [took]
theorem took_take (ts : List (List UInt8)) (k : Nat) : took (ts.take k) ≤ took ts := by
  induction ts generalizing k with
  | nil => simp
  | cons t ts ih =>
    cases k with
    | zero => simp [took]
    | succ k => rw [List.take_succ_cons, took_cons, took_cons]; have := ih k; omega
def cellsE (s : List UInt8) : Int := if (cellsO (allV s)).isSome then 0 else 50

set_option maxRecDepth 100000 in
set_option maxHeartbeats 8000000 in
theorem cellsOf_any (s : List UInt8) (hs : s.length ≤ 400000) (w : World) (ht : Tab w) :
    Calls Tryz.prog 34 #[.string (B s)] w fun e w' => ∃ v, e = .returned (.tuple #[v, .int .i64 (cellsE s)]) ∧ OwnC w' w.heap.size v ((cellsO (allV s)).getD []) ∧ Old w w' := by
  have hta := took_all s
  have hsm := allV_small s
  have hal := allV_len s
  have HE := Lib.hid (show cellsE s = if (cellsO (allV s)).isSome then 0 else 50 from rfl)
  go_enter Tryz.func34, Tryz.ntmps34
  go_wp2_with fail
  refine (all_any s (by omega) _ ht).mono ?_
  rintro e w1 ⟨A, cap, rfl, hS, k1⟩
  generalize hq : allV s = ts at *
  have HQ := Lib.hid hq
  clear hq
  go_wp2_with fail
  go_loopw [4, 18] (fun vl i wr => ∃ (k : Nat) (l : List Cel), k ≤ ts.length ∧ i = .int .i64 k ∧ Hid (cellsO (ts.take k) = some l) ∧ OwnC wr w1.heap.size vl l ∧ Old w1 wr) (fun _ i _ => ts.length - (intOf i).toNat)
  case atStart => exact ⟨0, [], Nat.zero_le _, rfl, Lib.hid rfl, OwnC.nil _ _, Old.re _⟩
  case round =>
    obtain ⟨k, l, hk, rfl, HC, ho, hw⟩ := hrel
    by_cases hlt : k < ts.length
    · obtain ⟨-, b, off, rfl, hc⟩ := (hS.old hw).at_ k hlt
      have HT := Lib.hid (show ts.take (k + 1) = ts.take k ++ [ts[k]] from List.take_succ_eq_append_getElem hlt)
      have HM := Lib.hid (List.getElem_mem hlt)
      have h16 := hsm _ HM.out
      generalize ts[k] = t at *
      have i1 : (k : Int) < (ts.length : Int) := by omega
      go_wp2_with fail
      refine (parse_any t (by omega) _).mono ?_
      rintro e w2 ⟨vp, rfl, ⟨base, hp⟩, k2⟩
      cases hpo : parseO t with
      | none =>
        have HN := Lib.hid (cellsO_none HM.out hpo)
        rw [show parseE t = 50 by unfold parseE; rw [hpo]]
        go_wp2
        go_ret2
        refine ⟨.slice none 0 0, ?_, ?_, k1.tr (hw.tr k2)⟩
        · rw [HE.out, HN.out]; rfl
        · rw [HQ.out, HN.out]; exact OwnC.nil _ _
      | some p =>
        rw [hpo, Option.getD_some] at hp
        rw [show parseE t = 0 by unfold parseE; rw [hpo]]
        have HC2 := Lib.hid (show cellsO (ts.take (k + 1)) = some (l ++ p) by rw [HT.out, cellsO_snoc, HC.out, hpo]; rfl)
        have hln := cellsO_len HC2.out
        have htt := took_take ts (k + 1)
        rw [List.length_append] at hln
        have o2 := hw.tr k2
        have ho2 := ho.old k2
        obtain ⟨Ap, np, cp, rfl⟩ := hp.form
        go_wp2_with (at_builtin; refine wp_cels rfl (.tmp 30) (.tmp 31) rfl (W0 := w1) o2 _ l p rfl ho2 base _ rfl hp (by omega) ?_; intro v4 w4 n4 o4)
        go_roundw
        case rel => exact ⟨k + 1, l ++ p, by omega, by go_num, HC2, n4, o4⟩
        case measure => simp [intOf]; omega
    · have e : k = ts.length := by omega
      subst e
      rw [List.take_length] at HC
      go_wp2
      go_ret2
      refine ⟨u4, ?_, ?_, k1.tr hw⟩
      · rw [HE.out, HC.out]; rfl
      · rw [HQ.out, HC.out, Option.getD_some]
        exact row_base ho k1.size
end Go.Proofs.YtlmlopdakbbbjaaGreatDoor
