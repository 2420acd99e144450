/-
  Make: an input in parts, each of them resolved. Conditions: lengths as written.
-/
import Derived.Test.YtbccpplpfcfboaaRPar
import Derived.Test.YtbccpplpfcfboaaRLst
namespace Go.Proofs.Ytbccpplpfcfboaa
open Go.RowKit Go.Shelf

attribute [local go_sem] Oper.semAt_some

set_option maxHeartbeats 1000000 in
theorem parts_in (n : Nat) (A : Option Addr) (N cap : Nat) (m : Int) (w : World) :
    CallsIn Fence.wide n Try.prog 35 #[.slice A N cap, .int .i64 m] w fun e w' => e = .returned (.func (.func 46) #[] #[.pointer (some ⟨w.heap.size, 0, none⟩), .pointer (some ⟨w.heap.size + 1, 0, none⟩)]) ∧ w' = (w.alloc (.cells #[.slice A N cap] 32)).alloc (.cells #[.int .i64 m] 3) := by
  refine callsIn_of_wp Try.func35 rfl trivial ?_ rfl
  simp only [Try.ntmps35, List.size_toArray, List.length_cons, List.length_nil, Nat.reduceAdd, Nat.reduceSub, Array.replicate_succ, Array.replicate_zero, List.push_toArray, List.append_toArray, List.nil_append, List.cons_append]
  gi_wp2
  go_ret
  exact ⟨rfl, rfl⟩
theorem parts_tells (n : Nat) (hn : 1 ≤ n) (bl bs g0 N cap m : Nat) (A : Option Addr) (hA : 0 < N → A = some ⟨g0, 0, none⟩) (hN : N ≤ 100000) (hc : N ≤ cap) (hm : 1 ≤ m) (hm2 : m ≤ 9223372036854775807) (w : World)
    (hbl : w.cell? ⟨bl, 0, none⟩ = some (.slice A N cap)) (hbs : Bk w bs 3 #[.int .i64 (m : Int)]) :
    Tells Fence.wide n Try.prog 46 #[.pointer (some ⟨bl, 0, none⟩), .pointer (some ⟨bs, 0, none⟩)] (encP g0 N cap m) itsI w.heap.size (startsOf N m) w := fun l J Jx W hW hJ _ hY h0 =>
  parts1_in n hn l bl bs w.heap.size g0 N cap m A hA hN hc hm hm2 J Jx hJ hY W ((hW.cell (p := ⟨bl, 0, none⟩) (World.block_lt_of_cell? w ⟨bl, 0, none⟩ hbl)).trans hbl) (hbs.old hW) h0

/-- The i-th part. -/
def part (l : List Itm) (m i : Nat) : List Itm := (l.drop (i * m)).take m
theorem part_len (l : List Itm) (m i : Nat) : (part l m i).length = min m (l.length - i * m) := by simp [part]
theorem Try.infoSl : (Try.prog.info? 32).map (fun i => (i.zero, i.size, i.bytes)) = some (some (.slice none 0 0), 1, 24) := by kernel_rfl
/-- append(v, u), of one thing of one cell: what comes of it. -/
theorem run_one {base : Nat} {w : World} {v : Value} {vs : List Value} {n : Nat} (t e : TypeId) (z : Value) (by_ : Nat) (hby : by_ ≤ 100) (ht : Try.prog.underlying t = some (.slice e)) (hz1 : z.cells.size = 1) (hi : (Try.prog.info? e).map (fun i => (i.zero, i.size, i.bytes)) = some (some z, 1, by_))
    (hbase : base ≤ w.heap.size) (hown : w.ownsRow base e 1 v n vs) (u : Value) (hu : u.oneCell' = true) (g c : Nat) (hg : Bk w g e #[u]) (hlen : n ≤ 100000) (ty : TypeId) :
    ∃ v' w', (Builtin.append_ #[t, t] ty #[v, .slice (some ⟨g, 0, none⟩) 1 c]).run Try.prog w = .ok v' w' ∧ w'.ownsRow base e 1 v' (n + 1) (vs ++ [u]) ∧ w.grownBy w' v.ownBlock := by
  obtain ⟨i0, hi, hz0, hz1', hz2⟩ := info_parts hi
  obtain ⟨v', w', hr, h2, h3, -, -⟩ := run_append_own_at (P := Try.prog) w base t ty e i0 z 1 by_ ht hi hz0 hz1' hz2 hz1 (by decide) v n vs hown ⟨g, 0, none⟩ 1 c [u] rfl (by
    intro j x hx
    cases j with
    | zero =>
      simp at hx
      subst hx
      rw [Addr.add_lit]
      rw [hg.cell]
      rfl
    | succ j => simp at hx) (by intro x hx; rw [List.mem_singleton.1 hx]; exact hu) (by unfold maxLen; omega) (by have := Nat.mul_le_mul (show n + 1 ≤ 100001 by omega) hby; omega) hbase
  exact ⟨v', w', hr, h2, h3⟩
theorem Bk.its {A Z : World} {g b : Nat} {t : TypeId} {cs : Array Value} (h : Bk A b t cs) (k : Its itsI g A Z) (hb : b < g ∨ itsI b t = false) : Bk Z b t cs := by
  refine k.block _ _ h ?_
  rcases hb with hb | hb
  · exact .inl hb
  · exact .inr ⟨rfl, hb⟩
theorem Rit.kept {A Z : World} {g : Nat} {v : Value} {l : List Itm} (h : Rit A v l) (k : Its itsI g A Z) : Rit Z v l := by
  rcases h with h | ⟨b, cap, r, h1, h2, h3⟩
  · exact .inl h
  · exact .inr ⟨b, cap, r, h1, h2, Bk.its h3 k (.inr rfl)⟩
theorem Old.its {w A Z : World} {g : Nat} (h : Old w A) (k : Its itsI g A Z) (hg : w.heap.size ≤ g) : Old w Z :=
  ⟨k.os.trans h.os, k.tape.trans h.tape, k.output.trans h.output, Nat.le_trans h.size k.size, fun i hi => by
    have h1 : w.heap[i]? = some w.heap[i] := Array.getElem?_eq_getElem hi
    have h2 := (h.block i hi).trans h1
    rw [h1]
    exact k.block i _ h2 (.inl (by omega))⟩
/-- Make between two rounds: the parts so far. -/
structure Pm (w : World) (gm base g0 : Nat) (r0 : List Value) (l : List Itm) (m : Nat) (v : Value) (vs : List Value) (k : Nat) (W : World) : Prop where
  bx : Bk W gm 30 #[v]
  row : W.ownsRow base 32 1 v k vs
  len : vs.length = k
  all : ∀ i u, vs[i]? = some u → ∃ out, IsRes (part l m i) out ∧ out.length ≤ (part l m i).length ∧ Rit W u out
  od : Old w W
  it : l = [] ∨ Seg W g0 l r0
  gw : w.heap.size ≤ gm
  gb : gm < base
  g0b : l = [] ∨ g0 < base
  sz : base ≤ W.heap.size
theorem Pm.its {w A Z : World} {gm base g0 : Nat} {r0 : List Value} {l : List Itm} {m : Nat} {v : Value} {vs : List Value} {k : Nat} (h : Pm w gm base g0 r0 l m v vs k A) (i : Its itsI base A Z) : Pm w gm base g0 r0 l m v vs k Z := by
  refine ⟨h.bx.its i (.inl h.gb), ⟨h.row.1, ?_⟩, h.len, fun j u hu => ?_, h.od.its i (by have := h.gw; have := h.gb; omega), ?_, h.gw, h.gb, h.g0b, Nat.le_trans h.sz i.size⟩
  · rcases h.row.2 with h1 | ⟨gg, cap, cur, hv, hb, hg, rest⟩
    · exact .inl h1
    · exact .inr ⟨gg, cap, cur, hv, hb, i.block _ _ hg (.inr ⟨rfl, rfl⟩), rest⟩
  · obtain ⟨out, h1, h2, h3⟩ := h.all j u hu
    exact ⟨out, h1, h2, h3.kept i⟩
  · rcases h.it with h1 | h1
    · exact .inl h1
    · exact .inr (Bk.its h1 i (.inr rfl))
theorem rit_one {w : World} {v : Value} {l : List Itm} (h : Rit w v l) : v.oneCell' = true := by
  rcases h with ⟨rfl, -⟩ | ⟨g, cap, r, rfl, -, -⟩ <;> rfl
theorem rit_form {w : World} {v : Value} {l : List Itm} (h : Rit w v l) : ∃ A n c, v = .slice A n c := by
  rcases h with ⟨rfl, -⟩ | ⟨g, cap, r, rfl, -, -⟩ <;> exact ⟨_, _, _, rfl⟩
theorem Rit.grown {w w' : World} {base n : Nat} {v u : Value} {vs : List Value} {l : List Itm} (h : Rit w u l) (ho : w.ownsRow base 32 1 v n vs) (hg : w.grownBy w' v.ownBlock) : Rit w' u l := by
  rcases h with h | ⟨b, cap, r, h1, h2, h3⟩
  · exact .inl h
  · refine .inr ⟨b, cap, r, h1, h2, Bk.grown h3 hg ?_⟩
    intro e
    rcases ho.2 with ⟨rfl, _⟩ | ⟨g', cap', cur, rfl, hbg, hgc, _⟩
    · cases e
    · have : b = g' := by simpa [Value.ownBlock] using e
      subst this
      rw [show w.heap[b]? = _ from h3] at hgc
      injection hgc with hgc
      injection hgc with _ hgc
      cases hgc
theorem Rit.set_ {w : World} {gm : Nat} {cs : Array Value} {u : Value} {l : List Itm} (h : Rit w u l) (hb : Bk w gm 30 cs) (o : Nat) (x : Value) : Rit (w.setCell ⟨gm, o, none⟩ x) u l := by
  rcases h with h | ⟨b, cap, r, h1, h2, h3⟩
  · exact .inl h
  · refine .inr ⟨b, cap, r, h1, h2, Bk.far h3 ?_ _⟩
    show b ≠ gm
    rintro rfl
    unfold Bk at hb
    rw [show w.heap[b]? = _ from h3] at hb
    injection hb with hb
    injection hb with _ hb
    cases hb
/-- One round of Make: what the append leaves. -/
theorem made_step {w W w1 : World} {gm base g0 : Nat} {r0 : List Value} {l : List Itm} {m : Nat} {v : Value} {vs : List Value} {k : Nat} {u : Value} {out : List Itm} (h : Pm w gm base g0 r0 l m v vs k W) (hk : k ≤ 90000) (h1 : IsRes (part l m k) out) (h2 : out.length ≤ (part l m k).length) (o1 : Old W w1) (hu : Rit w1 u out) :
    ∃ v2 w2, (Builtin.append_ #[30, 30] 30 #[v, .slice (some ⟨w1.heap.size, 0, none⟩) 1 1]).run Try.prog (w1.alloc (.cells #[u] 32)) = .ok v2 w2 ∧ Bk w2 gm 30 #[v] ∧
      Pm w gm base g0 r0 l m v2 (vs ++ [u]) (k + 1) (w2.setCell ⟨gm, 0, none⟩ v2) ∧ Bod itsI base W (w2.setCell ⟨gm, 0, none⟩ v2) := by
  have o2 : Old W (w1.alloc (.cells #[u] 32)) := o1.al _
  have hrow : (w1.alloc (.cells #[u] 32)).ownsRow base 32 1 v k vs := by
    refine ⟨h.row.1, ?_⟩
    rcases h.row.2 with q | ⟨gg, cap, cur, hv, hb, hg, rest⟩
    · exact .inl q
    · exact .inr ⟨gg, cap, cur, hv, hb, (o2.block _ (Array.getElem?_eq_some_iff.1 hg).1).trans hg, rest⟩
  have hsz : base ≤ (w1.alloc (.cells #[u] 32)).heap.size := Nat.le_trans h.sz o2.size
  obtain ⟨v2, w2, hr, hown, hgr⟩ := run_one (base := base) 30 32 (.slice none 0 0) 24 (by omega) Try.underlying30 rfl Try.infoSl hsz hrow u (rit_one hu) w1.heap.size 1 (new_bk _ _ _) (by omega) 30
  have hbx : Bk w2 gm 30 #[v] := (h.bx.old o2).grown hgr (by
    intro e
    have := (World.ownsRow.lt hrow gm e.symm).1
    have := h.gb
    omega)
  have hbd : Bod itsI base W w2 := (Bod.of_old o2).grown hrow (fun _ => rfl) hgr
  have hold : Old w w2 := ((h.od.tr o2)).trans ((Below.refl _ _).grown hgr (by have := h.gw; have := h.gb; omega) (fun j e => by have := (World.ownsRow.lt hrow j e).1; have := h.gw; have := h.gb; omega))
  refine ⟨v2, w2, hr, hbx, ?_, hbd.st hbx rfl 0 v2⟩
  have hrit : ∀ x p, Rit (w1.alloc (.cells #[u] 32)) x p → Rit (w2.setCell ⟨gm, 0, none⟩ v2) x p := fun x p hx => (hx.grown hrow hgr).set_ hbx 0 v2
  refine ⟨hbx.set_ 0 v2, ?_, by simp [h.len], fun i x hx => ?_, hold.st (p := ⟨gm, 0, none⟩) h.gw _, ?_, h.gw, h.gb, h.g0b, by have := hgr.size; simp [World.setCell]; have h3 := hsz; simp at h3; omega⟩
  · refine ⟨hown.1, ?_⟩
    rcases hown.2 with q | ⟨gg, cap, cur, hv, hb, hg, rest⟩
    · exact .inl q
    · refine .inr ⟨gg, cap, cur, hv, hb, (Below.heap_setCell w2 ⟨gm, 0, none⟩ v2 gg ?_).trans hg, rest⟩
      show gg ≠ gm
      have := h.gb
      omega
  · rcases Nat.lt_or_ge i vs.length with hi | hi
    · rw [List.getElem?_append_left hi] at hx
      obtain ⟨o, p1, p2, p3⟩ := h.all i x hx
      exact ⟨o, p1, p2, hrit _ _ (p3.old o2)⟩
    · rw [List.getElem?_append_right hi] at hx
      obtain ⟨rfl, rfl⟩ : i = vs.length ∧ x = u := by
        rcases Nat.lt_or_ge 0 (i - vs.length) with q | q
        · rw [List.getElem?_eq_none (by simp; omega)] at hx; cases hx
        · rw [show i - vs.length = 0 by omega] at hx
          simp at hx
          exact ⟨by omega, hx.symm⟩
      rw [h.len]
      exact ⟨out, h1, h2, hrit _ _ (hu.old (old_alloc _ _))⟩
  · rcases h.it with q | q
    · exact .inl q
    · refine .inr (Bk.far ((Bk.old q o2).grown hgr ?_) ?_ _)
      · intro e
        have e1 := (World.ownsRow.lt hrow g0 e.symm).1
        rcases h.g0b with rfl | g1
        · rcases hrow.2 with ⟨rfl, _⟩ | ⟨g', cap', cur, rfl, hbg, hgc, _⟩
          · cases e
          · have : g0 = g' := by simpa [Value.ownBlock] using e
            subst this
            rw [show _ = _ from Bk.old q o2] at hgc
            injection hgc with hgc
            injection hgc with _ hgc
            cases hgc
        · omega
      · show g0 ≠ gm
        rintro rfl
        have q2 := h.bx
        unfold Bk at q2
        rw [show W.heap[g0]? = _ from q] at q2
        injection q2 with q2
        injection q2 with _ q2
        cases q2

theorem row_form {w : World} {base : Nat} {e : TypeId} {sz n : Nat} {v : Value} {vs : List Value} (h : w.ownsRow base e sz v n vs) : ∃ A k c, v = .slice A k c := by
  rcases h.2 with ⟨rfl, -⟩ | ⟨g, cap, cur, rfl, -⟩ <;> exact ⟨_, _, _, rfl⟩
/-- append, whose run is known, as one step of a region that draws its order, in a round. -/
theorem step_run {F : Fence} {n : Nat} {ops : Array Oper} {op : Oper} {a : Act} {K : Act → World → Prop} {Q : Exit → Act → World → Prop} {E : Prop} {w w' : World} (hgd : op.guard = none) (s x : Operand) (t : TypeId) (ho : op.op = .call { callee := .builtin .append, args := #[s, x], argTypes := #[t, t] }) (v u v' : Value) (hs : a.eval s = v) (hx : a.eval x = u)
    (hr : (Builtin.append_ #[t, t] op.type #[v, u]).run Try.prog w = .ok v' w') (h : K (a.put op.dst v') w') :
    if Region.wanted op (yielded ops a.tmps) = true then Oper.wpIn F n Try.prog op a w K Q else E := by
  have hw : Region.wanted op (yielded ops a.tmps) = true := by simp [Region.wanted, hgd]
  rw [if_pos hw]
  unfold Oper.wpIn
  refine ⟨?_, ?_⟩
  · simp [Oper.about, ho, resolve, Target.leads, Sem.run_pure]
  · rw [Oper.semAt_plain F _ _ (by rw [ho]; intro c hc'; cases hc')]
    simp [execOp, ho, resolve, invoke, builtin, hs, hx, hr, Result.andThen]
    exact h
/-- What Make has made. -/
def Made (w : World) (v : Value) (l : List Itm) (m : Nat) : Prop := ∃ base vs, w.ownsRow base 32 1 v (many l.length m) vs ∧ vs.length = many l.length m ∧ ∀ i u, vs[i]? = some u → ∃ out, IsRes (part l m i) out ∧ out.length ≤ (part l m i).length ∧ Rit w u out

set_option maxRecDepth 100000 in
set_option maxHeartbeats 8000000 in
theorem make_in (n : Nat) (hn : 3 ≤ n) (w : World) (v : Value) (l : List Cel) (h : Cels w v l) (hl : l.length ≤ 40000) (m : Nat) (hm : 1 ≤ m) (hm2 : m ≤ 9223372036854775807) :
    CallsIn Fence.wide n Try.prog 25 #[v, .int .i64 (m : Int)] w fun e W' => ∃ u, e = .returned (.tuple #[u, .int .i64 0]) ∧ Made W' u (itemsOf l) m ∧ Old w W' := by
  have h1 : 1 ≤ n := by omega
  obtain ⟨A, cap, rfl, hc⟩ := h.form
  have HI := Lib.hid h
  clear h
  refine callsIn_of_wp_marks Try.func25 rfl trivial ?_ rfl
  simp only [Try.ntmps25, List.size_toArray, List.length_cons, List.length_nil, Nat.reduceAdd, Nat.reduceSub, Array.replicate_succ, Array.replicate_zero, List.push_toArray, List.append_toArray, List.nil_append, List.cons_append]
  gi_wp2_with fail
  refine ⟨trivial, (callsIn_wide.2 (items_any _ _ l (HI.out.old (old_alloc _ _)) (by omega))).mono ?_⟩
  rintro e w1 ⟨u1, rfl, o1, ow1⟩
  have hbx0 := (new_bk w 30 #[.slice none 0 0]).old o1
  have o1' := (old_alloc w (.cells #[.slice none 0 0] 30)).tr o1
  have hsz1 := o1.size
  simp only [World.size_alloc] at hsz1
  obtain ⟨A1, N1, cap1, g0, r0, rfl, hN1, hA1, hcap1, hit⟩ : ∃ A1 N1 cap1 g0 r0, u1 = .slice A1 N1 cap1 ∧ N1 = (itemsOf l).length ∧ (0 < N1 → A1 = some ⟨g0, 0, none⟩) ∧ N1 ≤ cap1 ∧ (itemsOf l = [] ∨ (Seg w1 g0 (itemsOf l) r0 ∧ g0 < w1.heap.size)) := by
    rcases ow1.seg with ⟨rfl, h0⟩ | ⟨g, cap, r, rfl, hg, hc, hs⟩
    · exact ⟨none, 0, 0, 0, [], rfl, by rw [h0]; rfl, fun h => absurd h (by omega), Nat.le_refl _, .inl h0⟩
    · exact ⟨_, _, cap, g, r, rfl, rfl, fun _ => rfl, hc, .inr ⟨hs, Bk.lt hs⟩⟩
  have hN2 : N1 ≤ 40000 := by rw [hN1, itemsOf_len]; exact hl
  have HIt := Lib.hid (And.intro hN1 hit)
  clear ow1 o1 hit hN1
  gi_wp2_with (refine ⟨trivial, ?_⟩; gi_at_call 35; refine (parts_in (n - 1) _ _ _ _ _).mono ?_; rintro e w' ⟨rfl, rfl⟩)
  have t0 := (hbx0.alloc (.cells #[.slice A1 N1 cap1] 32)).alloc (.cells #[.int .i64 (m : Int)] 3)
  have t1 := (new_bk w1 32 #[.slice A1 N1 cap1]).alloc (.cells #[.int .i64 (m : Int)] 3)
  have t2 := new_bk1 w1 (.cells #[.slice A1 N1 cap1] 32) 3 #[.int .i64 (m : Int)]
  have ox : Old w1 ((w1.alloc (.cells #[.slice A1 N1 cap1] 32)).alloc (.cells #[.int .i64 (m : Int)] 3)) := ((Old.re _).al _).al _
  have o0 := o1'.tr ox
  have hsz : ((w1.alloc (.cells #[.slice A1 N1 cap1] 32)).alloc (.cells #[.int .i64 (m : Int)] 3)).heap.size = w1.heap.size + 1 + 1 := by simp
  have HIt2 := Lib.hid (show itemsOf l = [] ∨ (Seg ((w1.alloc (.cells #[.slice A1 N1 cap1] 32)).alloc (.cells #[.int .i64 (m : Int)] 3)) g0 (itemsOf l) r0 ∧ g0 < w1.heap.size) by
    rcases HIt.out.2 with q | q
    · exact .inl q
    · exact .inr ⟨q.1.old ox, q.2⟩)
  clear ox hbx0 o1'
  generalize ((w1.alloc (.cells #[.slice A1 N1 cap1] 32)).alloc (.cells #[.int .i64 (m : Int)] 3)) = W0 at *
  have hb0 : w.heap.size < W0.heap.size := by omega
  refine range_its (encs := encP g0 N1 cap1 m) (T := itsI) (L := startsOf N1 m) rfl h1 (gf := 46) (lb := #[.pointer (some ⟨w1.heap.size, 0, none⟩), .pointer (some ⟨w1.heap.size + 1, 0, none⟩)]) rfl trivial (enters_of Try.func46 (by kernel_rfl) rfl)
    (parts_tells (n - 1) (by omega) _ _ g0 N1 cap1 m A1 hA1 (by omega) hcap1 hm hm2 W0 (t1.cell 0) t2) (fun _ => rfl)
    (fun k W => ∃ v vs, Pm w w.heap.size W0.heap.size g0 r0 (itemsOf l) m v vs k W) (fun _ _ _ => False)
    (fun _ _ _ i ⟨v, vs, h⟩ => ⟨v, vs, h.its i⟩) (fun _ _ _ _ _ h => h)
    ⟨.slice none 0 0, [], t0, World.ownsRow_nil _ _ _ _, rfl, fun i u hu => by simp at hu, o0, HIt2.out.imp id And.left, Nat.le_refl _, hb0, HIt2.out.imp id (fun q => by have := q.2; omega), Nat.le_refl _⟩
    (fun k x a' W => (∃ v vs, Pm w w.heap.size W0.heap.size g0 r0 (itemsOf l) m v vs k W) ∧ a' = { tmps := #[.slice A l.length cap, .int .i64 (m : Int), undef, undef, .slice none 0 0, .int .i64 0, .pointer (some ⟨w.heap.size, 0, none⟩), .slice (some ⟨g0, x * 7, none⟩) (min m (N1 - x)) (cap1 - x), .int .i64 (m : Int), .bool (decide ((m : Int) < 1)), .slice A l.length cap, .slice A1 N1 cap1, .int .i64 (m : Int), .func (.func 46) #[] #[.pointer (some ⟨w1.heap.size, 0, none⟩), .pointer (some ⟨w1.heap.size + 1, 0, none⟩)], .slice (some ⟨g0, x * 7, none⟩) (min m (N1 - x)) (cap1 - x), undef, undef, undef, undef, undef, undef], defers := [] })
    ?ax ?assign ?body ?done ?stop
  case ax =>
    rintro k x a' W l o o' hl ho hc ⟨⟨v, vs, hP⟩, rfl⟩
    exact ⟨⟨v, vs, hP.its (.put _ hl ho hc)⟩, rfl⟩
  case assign =>
    intro l k x W K hx hP hK
    dsimp only [encP]
    gi_wp2
    exact hK _ _ (Bod.re _ _ _) ⟨hP, rfl⟩
  case body =>
    rintro l' k x a' W hx ⟨⟨v, vs, hP⟩, rfl⟩
    obtain ⟨hxk, hkN, hkm⟩ := startsOf_at hm hx
    have HC := Lib.hid (show ∀ W', Old W W' → Calls Try.prog 37 #[.slice (some ⟨g0, x * 7, none⟩) (min m (N1 - x)) (cap1 - x)] W' fun e w' => ∃ u out, e = .returned u ∧ IsRes (part (itemsOf l) m k) out ∧ out.length ≤ (part (itemsOf l) m k).length ∧ Old W' w' ∧ Rit w' u out from fun W' o => by
      have hN := HIt.out.1
      have hpl := part_len (itemsOf l) m k
      rw [← hN, ← hxk] at hpl
      refine resolve_any W' _ (part (itemsOf l) m k) ?_ (by omega)
      refine .inr ⟨⟨g0, x * 7, none⟩, cap1 - x, by rw [hpl], by omega, fun _ => ⟨g0, x * 7, rfl, ?_⟩⟩
      rcases hP.it with q | q
      · exfalso
        rw [q] at hN
        simp at hN
        omega
      · have := ((q.its.drop_ (k * m)).take_ m).old o
        rw [Nat.zero_add, ← hxk] at this
        rw [part, ← hxk]
        exact this)
    have hk9 : k ≤ 90000 := by
      have : k * 1 ≤ k * m := Nat.mul_le_mul_left k hm
      omega
    have HM := Lib.hid (show ∀ (w1 : World) (u : Value) (out : List Itm), IsRes (part (itemsOf l) m k) out → out.length ≤ (part (itemsOf l) m k).length → Old W w1 → Rit w1 u out → _ from fun w1 u out a b c d => made_step hP hk9 a b c d)
    have hbx := hP.bx
    have cb := hbx.cell 0
    simp only [List.getElem?_toArray, List.getElem?_cons_zero] at cb
    have hgl := hbx.lt
    clear hP hxk hkN hkm hx
    have hn2 : 1 ≤ n - 1 - 1 := by omega
    gi_wp2_with fail
    refine wpIn_region_any (by kernel_rfl) ?_
    refine wpAnyIn_ready (rs := [0, 1]) (by kernel_rfl) (by simp) ?_
    refine AllReadyIn.cons rfl (fun K hK => ?_) ?_
    · go_simp
      refine hK _ _ ?_
      clear hK K
      refine wpAnyIn_ready (rs := [1]) (by kernel_rfl) (by simp) ?_
      refine AllReadyIn.cons rfl (fun K hK => ?_) ?_
      · go_simp
        refine hK _ _ ?_
        clear hK K
        refine wpAnyIn_ready (rs := [2]) (by kernel_rfl) (by simp) ?_
        refine AllReadyIn.cons rfl (fun K hK => ?_) ?_
        · go_simp
          refine ⟨trivial, (CallsIn.inRound l' (callsIn_wide.2 (HC.out _ (Old.re _).dr))).mono ?_⟩
          rintro r w8 ⟨u, out, rfl, hr1, hr2, o8, ru⟩
          refine hK _ _ ?_
          clear hK K
          have o1 : Old W w8 := ⟨o8.os, o8.tape, o8.output, o8.size, o8.block⟩
          obtain ⟨Au, nu, cu, rfl⟩ := rit_form ru
          obtain ⟨v2, w2, happ, B2, hP2, bd2⟩ := HM.out w8 _ out hr1 hr2 o1 ru
          obtain ⟨A2, n2, c2, rfl⟩ := row_form hP2.row
          have cb1 := (hbx.old o1).cell 0
          have fb2 := B2.fr 0
          have cb2 := B2.cell 0
          simp only [List.getElem?_toArray, List.getElem?_cons_zero] at cb1 cb2
          have hne1 : ¬ w.heap.size = w8.heap.size := by have := hbx.lt; have := o1.size; omega
          have hne2 : w.heap.size < w8.heap.size := by have := hbx.lt; have := o1.size; omega
          clear hr1 hr2 o8 ru o1 B2
          refine wpAnyIn_ready (rs := [3]) (by kernel_rfl) (by simp) ?_
          refine AllReadyIn.cons rfl (fun K hK => ?_) ?_
          · go_simp
            refine hK _ _ ?_
            clear hK K
            refine wpAnyIn_ready (rs := [4]) (by kernel_rfl) (by simp) ?_
            refine AllReadyIn.cons rfl (fun K hK => ?_) ?_
            · refine step_run rfl (.tmp 15) (.tmp 18) 30 rfl _ _ _ rfl rfl happ ?_
              refine hK _ _ ?_
              clear hK K
              refine wpAnyIn_ready (rs := [5]) (by kernel_rfl) (by simp) ?_
              refine AllReadyIn.cons rfl (fun K hK => ?_) ?_
              · go_simp
                refine hK _ _ ?_
                clear hK K
                refine wpAnyIn_done (by kernel_rfl) ?_ _
                exact ⟨bd2, _, _, hP2⟩

              exact AllReadyIn.nil

            exact AllReadyIn.nil

          exact AllReadyIn.nil

        exact AllReadyIn.nil

      exact AllReadyIn.nil

    refine AllReadyIn.cons rfl (fun K hK => ?_) ?_
    · go_simp
      refine hK _ _ ?_
      clear hK K
      refine wpAnyIn_ready (rs := [0, 2]) (by kernel_rfl) (by simp) ?_
      refine AllReadyIn.cons rfl (fun K hK => ?_) ?_
      · go_simp
        refine hK _ _ ?_
        clear hK K
        refine wpAnyIn_ready (rs := [2]) (by kernel_rfl) (by simp) ?_
        refine AllReadyIn.cons rfl (fun K hK => ?_) ?_
        · go_simp
          refine ⟨trivial, (CallsIn.inRound l' (callsIn_wide.2 (HC.out _ (Old.re _).dr))).mono ?_⟩
          rintro r w8 ⟨u, out, rfl, hr1, hr2, o8, ru⟩
          refine hK _ _ ?_
          clear hK K
          have o1 : Old W w8 := ⟨o8.os, o8.tape, o8.output, o8.size, o8.block⟩
          obtain ⟨Au, nu, cu, rfl⟩ := rit_form ru
          obtain ⟨v2, w2, happ, B2, hP2, bd2⟩ := HM.out w8 _ out hr1 hr2 o1 ru
          obtain ⟨A2, n2, c2, rfl⟩ := row_form hP2.row
          have cb1 := (hbx.old o1).cell 0
          have fb2 := B2.fr 0
          have cb2 := B2.cell 0
          simp only [List.getElem?_toArray, List.getElem?_cons_zero] at cb1 cb2
          have hne1 : ¬ w.heap.size = w8.heap.size := by have := hbx.lt; have := o1.size; omega
          have hne2 : w.heap.size < w8.heap.size := by have := hbx.lt; have := o1.size; omega
          clear hr1 hr2 o8 ru o1 B2
          refine wpAnyIn_ready (rs := [3]) (by kernel_rfl) (by simp) ?_
          refine AllReadyIn.cons rfl (fun K hK => ?_) ?_
          · go_simp
            refine hK _ _ ?_
            clear hK K
            refine wpAnyIn_ready (rs := [4]) (by kernel_rfl) (by simp) ?_
            refine AllReadyIn.cons rfl (fun K hK => ?_) ?_
            · refine step_run rfl (.tmp 15) (.tmp 18) 30 rfl _ _ _ rfl rfl happ ?_
              refine hK _ _ ?_
              clear hK K
              refine wpAnyIn_ready (rs := [5]) (by kernel_rfl) (by simp) ?_
              refine AllReadyIn.cons rfl (fun K hK => ?_) ?_
              · go_simp
                refine hK _ _ ?_
                clear hK K
                refine wpAnyIn_done (by kernel_rfl) ?_ _
                exact ⟨bd2, _, _, hP2⟩

              exact AllReadyIn.nil

            exact AllReadyIn.nil

          exact AllReadyIn.nil

        exact AllReadyIn.nil

      refine AllReadyIn.cons rfl (fun K hK => ?_) ?_
      · go_simp
        refine ⟨trivial, (CallsIn.inRound l' (callsIn_wide.2 (HC.out _ (Old.re _).dr))).mono ?_⟩
        rintro r w8 ⟨u, out, rfl, hr1, hr2, o8, ru⟩
        refine hK _ _ ?_
        clear hK K
        have o1 : Old W w8 := ⟨o8.os, o8.tape, o8.output, o8.size, o8.block⟩
        obtain ⟨Au, nu, cu, rfl⟩ := rit_form ru
        obtain ⟨v2, w2, happ, B2, hP2, bd2⟩ := HM.out w8 _ out hr1 hr2 o1 ru
        obtain ⟨A2, n2, c2, rfl⟩ := row_form hP2.row
        have cb1 := (hbx.old o1).cell 0
        have fb2 := B2.fr 0
        have cb2 := B2.cell 0
        simp only [List.getElem?_toArray, List.getElem?_cons_zero] at cb1 cb2
        have hne1 : ¬ w.heap.size = w8.heap.size := by have := hbx.lt; have := o1.size; omega
        have hne2 : w.heap.size < w8.heap.size := by have := hbx.lt; have := o1.size; omega
        clear hr1 hr2 o8 ru o1 B2
        refine wpAnyIn_ready (rs := [0, 3]) (by kernel_rfl) (by simp) ?_
        refine AllReadyIn.cons rfl (fun K hK => ?_) ?_
        · go_simp
          refine hK _ _ ?_
          clear hK K
          refine wpAnyIn_ready (rs := [3]) (by kernel_rfl) (by simp) ?_
          refine AllReadyIn.cons rfl (fun K hK => ?_) ?_
          · go_simp
            refine hK _ _ ?_
            clear hK K
            refine wpAnyIn_ready (rs := [4]) (by kernel_rfl) (by simp) ?_
            refine AllReadyIn.cons rfl (fun K hK => ?_) ?_
            · refine step_run rfl (.tmp 15) (.tmp 18) 30 rfl _ _ _ rfl rfl happ ?_
              refine hK _ _ ?_
              clear hK K
              refine wpAnyIn_ready (rs := [5]) (by kernel_rfl) (by simp) ?_
              refine AllReadyIn.cons rfl (fun K hK => ?_) ?_
              · go_simp
                refine hK _ _ ?_
                clear hK K
                refine wpAnyIn_done (by kernel_rfl) ?_ _
                exact ⟨bd2, _, _, hP2⟩

              exact AllReadyIn.nil

            exact AllReadyIn.nil

          exact AllReadyIn.nil

        refine AllReadyIn.cons rfl (fun K hK => ?_) ?_
        · go_simp
          refine hK _ _ ?_
          clear hK K
          refine wpAnyIn_ready (rs := [0]) (by kernel_rfl) (by simp) ?_
          refine AllReadyIn.cons rfl (fun K hK => ?_) ?_
          · go_simp
            refine hK _ _ ?_
            clear hK K
            refine wpAnyIn_ready (rs := [4]) (by kernel_rfl) (by simp) ?_
            refine AllReadyIn.cons rfl (fun K hK => ?_) ?_
            · refine step_run rfl (.tmp 15) (.tmp 18) 30 rfl _ _ _ rfl rfl happ ?_
              refine hK _ _ ?_
              clear hK K
              refine wpAnyIn_ready (rs := [5]) (by kernel_rfl) (by simp) ?_
              refine AllReadyIn.cons rfl (fun K hK => ?_) ?_
              · go_simp
                refine hK _ _ ?_
                clear hK K
                refine wpAnyIn_done (by kernel_rfl) ?_ _
                exact ⟨bd2, _, _, hP2⟩

              exact AllReadyIn.nil

            exact AllReadyIn.nil

          exact AllReadyIn.nil

        exact AllReadyIn.nil

      exact AllReadyIn.nil

    exact AllReadyIn.nil
  case done =>
    rintro D W hD ⟨v, vs, hP⟩ hK
    have cb := hP.bx.cell 0
    simp only [List.getElem?_toArray, List.getElem?_cons_zero] at cb
    gi_wp2
    refine ⟨by simp, .inl ⟨_, _, rfl, run_takeDeferred hK, ?_⟩⟩
    have i2 : Its itsI W0.heap.size W (W.putObj D (.deferred none)) := .put _ hD hK rfl
    have h2 := hP.its i2
    rw [startsOf_len, HIt.out.1] at h2
    exact ⟨_, results_tmp2 rfl _ _ _, v, rfl, ⟨W0.heap.size, vs, h2.row, h2.len, h2.all⟩, h2.od⟩
  case stop =>
    rintro D c k W _ _ h _
    exact h.elim
end Go.Proofs.Ytbccpplpfcfboaa
