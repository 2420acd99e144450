/-
  slices.Collect of cells that an iterator tells. Conditions: lengths as written; the iterator leaves the cells of others as they were.
-/
import Derived.Test.YthanenblcplbhaaMTol
import Derived.Maps.AppendAt
namespace Go.Proofs.Ythanenblcplbhaa
set_option maxRecDepth 100000
open Go.RowKit Go.Shelf

attribute [local go_sem] Oper.semAt_some

/-- The iterator's cells: what lay there ahead of all, and what is of other types than the body's. -/
def colT (g0 : Nat) (i : Nat) (t : TypeId) : Bool := decide (i < g0) || (t != 22 && t != 31)
theorem colT_mine (g0 : Nat) : TMine (colT g0) := ⟨fun _ => by simp [colT], fun _ => by simp [colT], fun _ => by simp [colT], fun _ => by simp [colT]⟩
theorem its_old {T : Nat → TypeId → Bool} {w A Z : World} {g : Nat} (h : Old w A) (i : Its T g A Z) (hg : w.heap.size ≤ g) : Old w Z :=
  ⟨i.os.trans h.os, i.tape.trans h.tape, i.output.trans h.output, Nat.le_trans h.size i.size, fun k hk => by
    obtain ⟨o, ho⟩ : ∃ o, A.heap[k]? = some o := ⟨_, Array.getElem?_eq_getElem (Nat.lt_of_lt_of_le hk h.size)⟩
    rw [i.block k o ho (.inl (Nat.lt_of_lt_of_le hk hg)), ← ho, h.block k hk]⟩
theorem OwnC.blk {w : World} {base : Nat} {v : Value} {l : List Cel} (h : OwnC w base v l) {j : Nat} (hj : v.ownBlock = some j) : base ≤ j ∧ ∃ cs, Bk w j 31 cs := by
  rcases h.2 with ⟨rfl, -⟩ | ⟨g, cap, cur, rfl, hb, hg, -⟩
  · cases hj
  · have e : g = j := by simpa [Value.ownBlock] using hj
    subst e
    exact ⟨hb, cur, hg⟩
theorem OwnC.keep {w w' : World} {base : Nat} {v : Value} {l : List Cel} (h : OwnC w base v l) (k : ∀ j o, v.ownBlock = some j → w.heap[j]? = some o → w'.heap[j]? = some o) : OwnC w' base v l := by
  refine ⟨h.1, ?_⟩
  rcases h.2 with h1 | ⟨g, cap, cur, rfl, hb, hg, rest⟩
  · exact .inl h1
  · exact .inr ⟨g, cap, cur, rfl, hb, k g _ rfl hg, rest⟩
theorem OwnC.slice {w : World} {base : Nat} {v : Value} {l : List Cel} (h : OwnC w base v l) : ∃ A k c, v = .slice A k c := by
  rcases h.2 with ⟨rfl, -⟩ | ⟨g, cap, cur, rfl, -⟩ <;> exact ⟨_, _, _, rfl⟩
theorem Bk.uniq {w : World} {j : Nat} {t t' : TypeId} {cs cs' : Array Value} (h : Bk w j t cs) (h' : Bk w j t' cs') : t = t' := by
  have e := (show w.heap[j]? = _ from h).symm.trans (show w.heap[j]? = _ from h')
  injection e with e
  injection e
/-- Between two rounds of AppendSeq. -/
structure ApI (w : World) (gs : Nat) (v : Value) (l : List Cel) (Z : World) : Prop where
  kx : Bk Z gs 22 #[v]
  ow : OwnC Z w.heap.size v l
  od : Old w Z
theorem ApI.its {w : World} {gs g g0 : Nat} {v : Value} {l : List Cel} {A Z : World} (h : ApI w gs v l A) (i : Its (colT g0) g A Z) (hg0 : g0 ≤ w.heap.size) (h1 : w.heap.size ≤ gs) (h2 : gs < g) : ApI w gs v l Z := by
  refine ⟨i.block _ _ h.kx (.inl h2), h.ow.keep fun j o hj ho => ?_, its_old h.od i (by omega)⟩
  obtain ⟨hb, cs, hc⟩ := h.ow.blk hj
  rw [show A.heap[j]? = _ from hc] at ho
  cases ho
  refine i.block j _ hc (.inr ⟨rfl, ?_⟩)
  rw [mine, colT]
  simp
  omega
/-- A cell more, between two rounds. -/
theorem ap_push {w W : World} {gs g g0 : Nat} {v : Value} {l : List Cel} {t : Cel} (hP : ApI w gs v l W) (hgs : w.heap.size ≤ gs) (hg0 : g0 ≤ w.heap.size) {v' : Value} {w' : World}
    (hown : w'.ownsRow w.heap.size 31 6 v' (l.length + 1) (flatC l ++ (cells t).toList)) (hg1 : (W.alloc (.cells (cells t) 31)).grownBy w' v.ownBlock) :
    Bk w' gs 22 #[v] ∧ ApI w gs v' (l ++ [t]) (w'.setCell ⟨gs, 0, none⟩ v') ∧ Bod (colT g0) g W (w'.setCell ⟨gs, 0, none⟩ v') := by
  have o9 := old_alloc W (.cells (cells t) 31)
  have kx9 := hP.kx.old o9
  have ow9 := hP.ow.keep (fun j o _ ho => (o9.block j (Array.getElem?_eq_some_iff.1 ho).1).trans ho)
  have kx' : Bk w' gs 22 #[v] := Bk.grown kx9 hg1 fun hq => by
    obtain ⟨-, cs, hc⟩ := ow9.blk hq.symm
    exact absurd (kx9.uniq hc) (by decide)
  have hT : OwnC w' w.heap.size v' (l ++ [t]) := by
    unfold OwnC
    rw [flatC_app, List.length_append]
    simpa [flatC] using hown
  have hne : ∀ j, v'.ownBlock = some j → gs ≠ j := fun j hj => by
    rintro rfl
    obtain ⟨-, cs, hc⟩ := hT.blk hj
    exact absurd (kx'.uniq hc) (by decide)
  have o1 : Old w w' := (hP.od.tr o9).trans ((Below.refl _ _).grown hg1 (hP.od.tr o9).size (fun k hk => (hP.ow.blk hk).1))
  refine ⟨kx', ⟨by simpa using Bk.set_ kx' 0 v', hT.keep fun j o hj ho => (Below.heap_setCell w' ⟨gs, 0, none⟩ v' j (fun e => hne j hj e.symm)).trans ho, o1.st (p := ⟨gs, 0, none⟩) hgs _⟩, ?_⟩
  have hno : ∀ j, w.heap.size ≤ j → colT g0 j 31 = false := fun j hj => by rw [colT]; simp; omega
  have hno2 : colT g0 gs 22 = false := by rw [colT]; simp; omega
  have b2 : Bod (colT g0) g (W.alloc (.cells (cells t) 31)) w' := by
    refine ⟨hg1.size, fun i ob' ho hx => (hg1.block i (Array.getElem?_eq_some_iff.1 ho).1 fun hq => ?_).trans ho⟩
    obtain ⟨hb, cs, hc⟩ := ow9.blk hq.symm
    rw [show _ = _ from hc] at ho
    cases ho
    rcases hx with hx | hx
    · cases hx.2
    · rw [mine, hno i hb] at hx
      cases hx
  exact ((Bod.of_old o9).tr b2).st kx' hno2 0 v'

set_option maxHeartbeats 8000000 in
theorem appendSeq_in (n g0 : Nat) (w : World) (hg0 : g0 ≤ w.heap.size) (gf : Nat) (lb : Array Value) (L : List Cel) (hL : L.length ≤ 1000000) (he : ∀ args w, (callFunc gf args).run Try.prog w = .ok (.enter gf args) w)
    (hseq : ∀ W, Old w W → Tels Try.prog gf lb encC (colT g0) W.heap.size L W) :
    CallsIn Fence.wide n Try.prog 51 #[.slice none 0 0, .func (.func gf) #[] lb] w fun e W' => ∃ u, e = .returned u ∧ OwnC W' w.heap.size u L ∧ Old w W' := by
  obtain ⟨N, hN⟩ : ∃ N : Nat, 9 ≤ N := ⟨9, Nat.le_refl _⟩
  refine CallsIn.any (m := N) ?_
  clear n
  refine callsIn_of_wp_marks Try.func51 rfl trivial ?_ rfl
  simp only [Try.ntmps51, List.size_toArray, List.length_cons, List.length_nil, Nat.reduceAdd, Nat.reduceSub, Array.replicate_succ, Array.replicate_zero, List.push_toArray, List.append_toArray, List.nil_append, List.cons_append]
  have o0 := old_alloc w (.cells #[.slice none 0 0] 22)
  have k0 := new_bk w 22 #[.slice none 0 0]
  have HT := Lib.hid (hseq _ o0)
  have hsz : (w.alloc (.cells #[.slice none 0 0] 22)).heap.size = w.heap.size + 1 := by simp
  clear hseq
  gi_wp2_with fail
  generalize w.alloc (.cells #[.slice none 0 0] 22) = W0 at *
  have hg2 : w.heap.size < W0.heap.size := by omega
  have hgs : w.heap.size ≤ w.heap.size := Nat.le_refl _
  obtain ⟨i0, hi, hz0, hz1, hz2⟩ := info_parts Try.infoCell
  refine range_tels (encs := encC) (T := colT g0) (L := L) (show 1 ≤ N by omega) (gf := gf) (lb := lb) rfl he HT.out (fun _ => rfl)
    (fun k W => ∃ v, ApI w w.heap.size v (L.take k) W) (fun _ _ _ => False)
    (fun _ _ _ i ⟨v, h⟩ => ⟨v, h.its i hg0 hgs hg2⟩) (fun _ _ _ _ _ h => h)
    ⟨_, k0, World.ownsRow_nil _ _ _ _, o0⟩
    (fun k x a' W => ∃ bx, Bk W bx 31 (cells x) ∧ (∃ v, ApI w w.heap.size v (L.take k) W) ∧ a' = { tmps := #[.slice none 0 0, .func (.func gf) #[] lb, .pointer (some ⟨w.heap.size, 0, none⟩), undef, .slice none 0 0, .pointer (some ⟨bx, 0, none⟩), .func (.func gf) #[] lb, cv x, undef, undef, undef, undef, undef], defers := [] })
    ?ax ?assign ?body ?done ?stop
  case ax =>
    rintro k x a' W l o o' hl ho hc ⟨bx, hbx, ⟨v, hP⟩, rfl⟩
    refine ⟨bx, (World.putObj_heap_other ?_).trans hbx, ⟨v, hP.its (.put _ hl ho hc) hg0 hgs hg2⟩, rfl⟩
    rintro rfl
    rw [show W.heap[bx]? = _ from hbx] at ho
    cases ho
    cases hc
  case assign =>
    rintro l k x W K hx h3 ⟨v, hP⟩ hK
    dsimp only [encC]
    gi_wp2
    exact hK _ _ (.of_old (old_alloc _ _)) ⟨W.heap.size, new_bk _ _ _, ⟨v, hP.its (g := W.heap.size) (.of_old (old_alloc _ _)) hg0 hgs (Nat.lt_of_lt_of_le hg2 (by omega))⟩, rfl⟩
  case body =>
    rintro l' k x a' W hx ⟨bx, hbx, ⟨v, hP⟩, rfl⟩
    have hk := (List.getElem?_eq_some_iff.1 hx).1
    obtain ⟨A3, n3, c3, rfl⟩ := hP.ow.slice
    have cb : W.cell? ⟨w.heap.size, 0, none⟩ = some (.slice A3 n3 c3) := hP.kx.cell 0
    have d0 : W.cell? ⟨bx, 0, none⟩ = some (.string (B x.row)) := hbx.cell 0
    have d1 : W.cell? ⟨bx, 1, none⟩ = some (.string (B x.col)) := hbx.cell 1
    have d2 : W.cell? ⟨bx, 2, none⟩ = some (.int .u64 x.ts) := hbx.cell 2
    have d3 : W.cell? ⟨bx, 3, none⟩ = some (.int .u64 x.seq) := hbx.cell 3
    have d4 : W.cell? ⟨bx, 4, none⟩ = some (.bool x.del) := hbx.cell 4
    have d5 : W.cell? ⟨bx, 5, none⟩ = some (.string (B x.val)) := hbx.cell 5
    have HP := Lib.hid hP
    have hos := hP.od.size
    have hrow := hP.ow
    unfold OwnC at hrow
    have hl9 : (L.take k).length ≤ 1000000 := by rw [List.length_take]; omega
    have cb2 : (W.alloc (.cells (cells x) 31)).cell? ⟨w.heap.size, 0, none⟩ = some (.slice A3 n3 c3) := cell_old cb (old_alloc _ _)
    have HC := Lib.hid (new_bk W 31 (cells x))
    clear hbx hP
    gi_wp2_with (first
      | (gi_at_builtin; refine wpListIn_append_own _ rfl _ _ 22 rfl w.heap.size 31 i0 (.agg zeroCell) 6 72 Try.underlying22 hi hz0 hz1 hz2 rfl (by decide) _ _ _ rfl (hrow.alloc _) ⟨W.heap.size, 0, none⟩ 1 1 (cells x).toList rfl rfl (by intro j u hu; rw [Addr.add_lit, Nat.zero_add, HC.out.cell]; simpa using hu) (by simp [Value.oneCell']) (by unfold maxLen; omega) (by omega) (by simp; omega) ?_; intro v' w3 hown' hg3 _; refine Hid.out ?_)
      | fail)
    obtain ⟨kx', hA5, hB5⟩ := ap_push (g := W0.heap.size) HP.out hgs hg0 hown' hg3
    have ht : L.take k ++ [x] = L.take (k + 1) := by
      rw [List.take_add_one, hx]; rfl
    rw [ht] at hA5
    have HZ := Lib.hid (And.intro hA5 hB5)
    obtain ⟨A4, n4, c4, rfl⟩ := hA5.ow.slice
    have c5 : w3.cell? ⟨w.heap.size, 0, none⟩ = some (.slice A3 n3 c3) := kx'.cell 0
    have f5 := kx'.fr 0
    refine Lib.hid ?_
    clear hA5 hB5 hown' hg3 kx' hrow
    gi_wp2
    exact ⟨HZ.out.2, _, HZ.out.1⟩
  case done =>
    rintro D W hD ⟨v, hP⟩ hK
    obtain ⟨A3, n3, c3, rfl⟩ := hP.ow.slice
    have cb : W.cell? ⟨w.heap.size, 0, none⟩ = some (.slice A3 n3 c3) := hP.kx.cell 0
    gi_wp2
    refine ⟨by simp, .inl ⟨_, _, rfl, run_takeDeferred hK, ?_⟩⟩
    have h2 := hP.its (g := W0.heap.size) (.put (.deferred none) hD hK rfl) hg0 hgs hg2
    have how := h2.ow
    rw [List.take_length] at how
    exact ⟨_, results_tmp rfl _ _ _, .slice A3 n3 c3, rfl, how, h2.od⟩
  case stop =>
    rintro D c k W _ _ h _
    exact h.elim

set_option maxHeartbeats 1000000 in
theorem collect_in (n g0 : Nat) (w : World) (hg0 : g0 ≤ w.heap.size) (gf : Nat) (lb : Array Value) (L : List Cel) (hL : L.length ≤ 1000000) (he : ∀ args w, (callFunc gf args).run Try.prog w = .ok (.enter gf args) w)
    (hseq : ∀ W, Old w W → Tels Try.prog gf lb encC (colT g0) W.heap.size L W) :
    CallsIn Fence.wide n Try.prog 45 #[.func (.func gf) #[] lb] w fun e W' => ∃ u, e = .returned u ∧ OwnC W' w.heap.size u L ∧ Old w W' := by
  refine callsIn_of_wp Try.func45 rfl trivial ?_ rfl
  simp only [Try.ntmps45, List.size_toArray, List.length_cons, List.length_nil, Nat.reduceAdd, Nat.reduceSub, Array.replicate_succ, Array.replicate_zero, List.push_toArray, List.append_toArray, List.nil_append, List.cons_append]
  have HA := Lib.hid (appendSeq_in (n - 1) g0 w hg0 gf lb L hL he hseq)
  clear hseq
  gi_wp2_with fail
  refine ⟨trivial, fun h => (by cases h), HA.out.mono ?_⟩
  rintro e w1 ⟨u, rfl, h1, o1⟩
  obtain ⟨A3, n3, c3, rfl⟩ := h1.slice
  gi_wp2
  go_ret
  exact ⟨_, rfl, h1, o1⟩
end Go.Proofs.Ythanenblcplbhaa
