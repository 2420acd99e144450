/-
  Pieces: a number and cells, in a slice of the call's own; append of one; what All is, as plain mathematics. Conditions: lengths as written.
-/
import Derived.Test.YtohokmfbcehkgaaCRro
namespace Go.Proofs.Ytohokmfbcehkgaa
open Go.RowKit Go.Shelf

abbrev zeroP : Array Value := #[.int .i64 0, .slice none 0 0]
theorem Try.infoP : (Try.prog.info? 43).map (fun i => (i.zero, i.size, i.bytes)) = some (some (.agg zeroP), 2, 32) := by kernel_rfl
theorem Try.infoPR : (Try.prog.info? 44).map (fun i => (i.zero, i.size, i.bytes)) = some (some (.agg zeroP), 2, 32) := by kernel_rfl
def pcells (p : Nat × Value) : List Value := [.int .i64 (p.1 : Int), p.2]
def flatP (ps : List (Nat × Value)) : List Value := ps.flatMap pcells
theorem flatP_len (l : List (Nat × Value)) : (flatP l).length = l.length * 2 := by
  induction l with
  | nil => rfl
  | cons x l ih =>
    rw [show flatP (x :: l) = pcells x ++ flatP l from rfl, List.length_append, ih]
    simp [pcells]; omega
theorem flatP_at (l : List (Nat × Value)) (i j : Nat) (x : Nat × Value) (h : l[i]? = some x) (hj : j < 2) : (flatP l)[i * 2 + j]? = (pcells x)[j]? := by
  induction l generalizing i with
  | nil => simp at h
  | cons y l ih =>
    rw [show flatP (y :: l) = pcells y ++ flatP l from rfl]
    have h2 : (pcells y).length = 2 := rfl
    cases i with
    | zero =>
      simp only [List.getElem?_cons_zero, Option.some.injEq] at h
      subst h
      rw [List.getElem?_append_left (by omega)]
      simp
    | succ i =>
      simp only [List.getElem?_cons_succ] at h
      rw [List.getElem?_append_right (by omega), ← ih i h]
      congr 1
      omega
/-- A slice of pieces, all of it the call's own. -/
structure OwnP (e : TypeId) (w : World) (base : Nat) (v : Value) (ps : List (Nat × Value)) (PL : List (Nat × List Cel)) : Prop where
  outer : w.ownsRow base e 2 v ps.length (flatP ps)
  len : ps.length = PL.length
  inner : ∀ (i : Nat) (p : Nat × Value) (q : Nat × List Cel), ps[i]? = some p → PL[i]? = some q → p.1 = q.1 ∧ OwnC w base p.2 q.2
theorem OwnP.old {e : TypeId} {w w' : World} {base : Nat} {v : Value} {ps : List (Nat × Value)} {PL : List (Nat × List Cel)} (h : OwnP e w base v ps PL) (o : Old w w') : OwnP e w' base v ps PL :=
  ⟨row_old h.outer o, h.len, fun i p q hp hq => ⟨(h.inner i p q hp hq).1, (h.inner i p q hp hq).2.old o⟩⟩
theorem OwnP.nil (e : TypeId) (w : World) (base : Nat) : OwnP e w base (.slice none 0 0) [] [] := ⟨World.ownsRow_nil _ _ _ _, rfl, fun i p q hp => by simp at hp⟩
theorem OwnP.empty {e : TypeId} {w : World} {base g : Nat} (h : Bk w g e #[]) (hb : base ≤ g) : OwnP e w base (.slice (some ⟨g, 0, none⟩) 0 0) [] [] :=
  ⟨⟨rfl, .inr ⟨g, 0, #[], rfl, hb, h, Nat.le_refl _, by simp, rfl, rfl⟩⟩, rfl, fun i p q hp => by simp at hp⟩
theorem OwnP.form {e : TypeId} {w : World} {base : Nat} {v : Value} {ps : List (Nat × Value)} {PL : List (Nat × List Cel)} (h : OwnP e w base v ps PL) : ∃ A cap, v = .slice A PL.length cap ∧ PL.length ≤ cap := by
  rw [← h.len]
  rcases h.outer.2 with ⟨rfl, h0⟩ | ⟨g, cap, cur, rfl, hb, hg, hnc, -⟩
  · rw [h0]; exact ⟨none, 0, rfl, Nat.le_refl _⟩
  · exact ⟨_, cap, rfl, hnc⟩
theorem OwnP.at_ {e : TypeId} {w : World} {base : Nat} {A : Option Addr} {n cap : Nat} {ps : List (Nat × Value)} {PL : List (Nat × List Cel)} (h : OwnP e w base (.slice A n cap) ps PL) {i : Nat} {t : Nat} {l : List Cel} (hl : PL[i]? = some (t, l)) :
    ∃ g u, A = some ⟨g, 0, none⟩ ∧ OwnC w base u l ∧ w.cell? ⟨g, i * 2, none⟩ = some (.int .i64 (t : Int)) ∧ w.cell? ⟨g, i * 2 + 1, none⟩ = some u := by
  have hi := (List.getElem?_eq_some_iff.1 hl).1
  obtain ⟨p, hp⟩ : ∃ p, ps[i]? = some p := ⟨ps[i]'(by rw [h.len]; exact hi), List.getElem?_eq_getElem _⟩
  obtain ⟨h1, h2⟩ := h.inner i p _ hp hl
  rcases h.outer.2 with ⟨-, h0⟩ | ⟨g, cap', cur, e', hb, hg, hnc, -, hcs, ht⟩
  · have := h.len; omega
  · simp only [Value.slice.injEq] at e'
    have key : ∀ j, j < 2 → w.cell? ⟨g, i * 2 + j, none⟩ = (pcells p)[j]? := fun j hj => by
      rw [Bk.cell hg, ← flatP_at ps i j p hp hj, ← ht, List.getElem?_take, if_pos (by have := h.len; omega)]
      simp
    refine ⟨g, p.2, e'.1, h2, ?_, ?_⟩
    · have := key 0 (by omega)
      rw [Nat.add_zero] at this
      rw [this]
      have h1' : p.1 = t := h1
      rw [← h1']
      rfl
    · exact key 1 (by omega)
theorem wp_piece {ops : Array Oper} {rest : List Oper} {op : Oper} {a : Act} {Q : Exit → Act → World → Prop} {W0 w : World} (t e : TypeId) (ht : Try.prog.underlying t = some (.slice e)) (hi : (Try.prog.info? e).map (fun i => (i.zero, i.size, i.bytes)) = some (some (.agg zeroP), 2, 32)) (hne : e ≠ 50)
    (hgd : op.guard = none) (s x : Operand) (ho : op.op = .call { callee := .builtin .append, args := #[s, x], argTypes := #[t, t] })
    (o : Old W0 w) (v : Value) (ps : List (Nat × Value)) (PL : List (Nat × List Cel)) (hs : a.eval s = v) (h : OwnP e w W0.heap.size v ps PL) (tb : Nat) (u : Value) (l : List Cel) (hu : OwnC w W0.heap.size u l)
    (ga : Nat) (hx : a.eval x = .slice (some ⟨ga, 0, none⟩) 1 1) (hga : Bk w ga e #[.int .i64 (tb : Int), u]) (hlen : PL.length ≤ 1000000)
    (hk : ∀ v' w', OwnP e w' W0.heap.size v' (ps ++ [(tb, u)]) (PL ++ [(tb, l)]) → Old W0 w' → (∀ (b : Nat) (v1 : Value) (l1 : List Cel), OwnC w b v1 l1 → OwnC w' b v1 l1) → (∀ (b : Nat) (v1 : Value) (us : List Value) (LL : List (List Cel)), (∀ j, v1.ownBlock = some j → v.ownBlock ≠ some j) → OwnLL w b v1 us LL → OwnLL w' b v1 us LL) → w.grownBy w' v.ownBlock → wpList Try.prog ops Q rest (a.put op.dst v') w') : wpList Try.prog ops Q (op :: rest) a w := by
  obtain ⟨i0, hi, hz0, hz1, hz2⟩ := info_parts hi
  obtain ⟨Au, cu, rfl, -⟩ := hu.cels.form
  obtain ⟨v', w', hr, hown, hg1, -, -⟩ := run_append_own_at (P := Try.prog) w W0.heap.size t op.type e i0 (.agg zeroP) 2 32 ht hi hz0 hz1 hz2 rfl (by decide) v ps.length (flatP ps) h.outer ⟨ga, 0, none⟩ 1 1 (pcells (tb, .slice Au l.length cu)) rfl (by
    intro j y hy
    rw [Addr.add_lit, Nat.zero_add, hga.cell]
    simpa [pcells] using hy) (by
    intro y hy
    simp [pcells] at hy
    rcases hy with rfl | rfl <;> rfl) (by rw [h.len]; unfold maxLen; omega) (by rw [h.len]; omega) o.size
  have hvb : ∀ j, v.ownBlock = some j → ∃ cs, Bk w j e cs := fun j hj => by
    rcases h.outer.2 with ⟨rfl, -⟩ | ⟨g, cap, cur, rfl, hb, hg, -⟩
    · cases hj
    · have e' : g = j := by simpa [Value.ownBlock] using hj
      subst e'
      exact ⟨cur, hg⟩
  have keep : ∀ (b : Nat) (x : Value) (lx : List Cel), OwnC w b x lx → OwnC w' b x lx := fun b x lx hx => hx.keep fun c ob hbk ho => by
    refine (hg1.block c (Array.getElem?_eq_some_iff.1 ho).1 fun hq => ?_).trans ho
    obtain ⟨cs, hc⟩ := hvb c hq.symm
    obtain ⟨-, cs2, hc2⟩ := hx.blk hbk
    exact hne (hc.uniq hc2)
  refine wpList_plain hgd fun K hK => ?_
  unfold Oper.wp execOp
  simp only [ho, resolve, invoke, builtin, Sem.run_bind, Sem.run_pure, Result.andThen_ok, List.map_toArray, List.map_cons, List.map_nil, hs, hx, hr]
  refine hK _ _ (hk v' w' ⟨?_, by simp [h.len], fun i p q hp hq => ?_⟩ (o.trans ((Below.refl _ _).grown hg1 o.size (fun k hk => (World.ownsRow.lt h.outer k hk).1))) keep (fun b v1 us LL hv1 hL => hL.keep (fun j ob hj ho => (hg1.block j (Array.getElem?_eq_some_iff.1 ho).1 fun hq => hv1 j hj hq.symm).trans ho) (fun j cs _ ho => (hg1.block j (Array.getElem?_eq_some_iff.1 ho).1 fun hq => (by
    obtain ⟨cs', hc⟩ := hvb j hq.symm
    exact hne (hc.uniq ho))).trans ho)) hg1)
  · unfold flatP
    rw [List.flatMap_append, List.length_append]
    simpa [flatP] using hown
  · rcases Nat.lt_or_ge i ps.length with hi | hi
    · rw [List.getElem?_append_left hi] at hp
      rw [List.getElem?_append_left (by rw [← h.len]; exact hi)] at hq
      exact ⟨(h.inner i p q hp hq).1, keep _ _ _ (h.inner i p q hp hq).2⟩
    · rw [List.getElem?_append_right hi] at hp
      rw [List.getElem?_append_right (by rw [← h.len]; exact hi), ← h.len] at hq
      have h0 : i - ps.length = 0 := by
        have := (List.getElem?_eq_some_iff.1 hp).1
        simp at this
        omega
      rw [h0] at hp hq
      simp at hp hq
      subst hp hq
      exact ⟨rfl, keep _ _ _ hu⟩

/-- What stands one way in a list stands so in what is left of it. -/
theorem rising_pair : ∀ l : List Cel, rising l = true → l.Pairwise fun a b => cmpC a b = -1
  | [], _ => List.Pairwise.nil
  | [x], _ => by simp
  | x :: y :: t, h => by
    rw [rising, Bool.and_eq_true, decide_eq_true_eq] at h
    have ih := rising_pair (y :: t) h.2
    have h1 : cmpC x y = -1 := by rcases cmpC_vals x y with g | g | g <;> omega
    rw [List.pairwise_cons]
    refine ⟨fun z hz => ?_, ih⟩
    rcases List.mem_cons.1 hz with rfl | hz
    · exact h1
    · exact cmpC_lt_trans x y z h1 ((List.pairwise_cons.1 ih).1 z hz)
theorem pair_rising : ∀ l : List Cel, (l.Pairwise fun a b => cmpC a b = -1) → rising l = true
  | [], _ => rfl
  | [x], _ => rfl
  | x :: y :: t, h => by
    rw [List.pairwise_cons] at h
    rw [rising, pair_rising (y :: t) h.2, h.1 y (by simp)]
    rfl
theorem rising_filter {l : List Cel} (h : rising l = true) (p : Cel → Bool) : rising (l.filter p) = true := pair_rising _ ((rising_pair l h).filter p)
/-- All. -/
def allE (l : List Cel) (bs : List (List UInt8)) (most : Int) : Int := if splitE l bs ≠ 0 then splitE l bs else if most < 1 then 1 else 0
def upP (LL : List (List Cel)) (most : Int) (n : Nat) : List (Nat × List Cel) := (List.range n).flatMap fun i => (rollL most (LL[i]?.getD [])).map fun c => (i, c)
def allV (l : List Cel) (bs : List (List UInt8)) (most : Int) : List (Nat × List Cel) := if allE l bs most ≠ 0 then [] else upP (splitL bs l) most (bs.length + 1)
theorem upP_succ (LL : List (List Cel)) (most : Int) (n : Nat) : upP LL most (n + 1) = upP LL most n ++ (rollL most (LL[n]?.getD [])).map fun c => (n, c) := by
  unfold upP
  rw [List.range_succ, List.flatMap_append]
  simp
theorem splitE_0 {l : List Cel} {bs : List (List UInt8)} (h : splitE l bs = 0) : bords bs = true ∧ rising l = true ∧ splitV l bs = splitL bs l := by
  unfold splitE at h
  unfold splitV
  cases hb : bords bs with
  | false => rw [hb] at h; simp at h
  | true =>
    cases hr : rising l with
    | false => rw [hb, hr] at h; simp at h
    | true => simp
theorem roll_of {l : List Cel} {most : Int} (h : ¬ most < 1) (hr : rising l = true) : rollE l most = 0 ∧ rollV l most = rollL most l := roll_e0 h hr
end Go.Proofs.Ytohokmfbcehkgaa
