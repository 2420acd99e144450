/-
  slices.Sorted of slices.Values of texts, and Place of the code. Conditions: lengths as written.
-/
import Derived.Test.YtohokmfbcehkgaaCShelf
import Derived.Test.YtohokmfbcehkgaaCRol
import Derived.Sort.OwnSorted
import Derived.Sort.Walk0
namespace Go.Proofs.Ytohokmfbcehkgaa
open Go.RowKit Go.Shelf Go.Sort

attribute [local go_sem] Oper.semAt_some

theorem Try.infoStr : (Try.prog.info? 9).map (fun i => (i.zero, i.size, i.bytes)) = some (some (.string ⟨#[]⟩), 1, 16) := by kernel_rfl
set_option maxHeartbeats 1000000 in
theorem values_in (n : Nat) (v : Value) (A : Option Addr) (k c : Nat) (hv : v = .slice A k c) (W : World) : CallsIn Fence.wide n Try.prog 28 #[v] W fun e w' => e = .returned (.func (.func 38) #[] #[.pointer (some ⟨W.heap.size, 0, none⟩)]) ∧ w' = W.alloc (.cells #[v] 23) := by
  subst hv
  refine callsIn_of_wp Try.func28 rfl trivial ?_ rfl
  simp only [Try.ntmps28, List.size_toArray, List.length_cons, List.length_nil, Nat.reduceAdd, Nat.reduceSub, Array.replicate_succ, Array.replicate_zero, List.push_toArray, List.append_toArray, List.nil_append, List.cons_append]
  gi_wp2
  go_ret
  exact ⟨rfl, rfl⟩
/-- The iterator's block: the texts' own. -/
def valT (ob : Option Nat) (i : Nat) (_ : TypeId) : Bool := ob == some i
def encV (t : List UInt8) : Array Value := #[.string (B t)]
theorem strs_blk {w w' : World} {b off cap : Nat} {l : List (List UInt8)} (h : Strs w (some ⟨b, off, none⟩) cap l) (k : w'.heap[b]? = w.heap[b]?) : Strs w' (some ⟨b, off, none⟩) cap l := by
  refine ⟨h.1, fun i t ht => ?_⟩
  obtain ⟨h1, b', off', e, h2⟩ := h.2 i t ht
  simp only [Option.some.injEq, Addr.mk.injEq, and_true] at e
  obtain ⟨rfl, rfl⟩ := e
  exact ⟨h1, b, off, rfl, by rw [cell_heap k]; exact h2⟩
/-- Texts that came in: where they lie, if there are some. -/
theorem strs_place {w : World} {A : Option Addr} {cap : Nat} {l : List (List UInt8)} (h : Strs w A cap l) : ∃ b0 off0 ob, (l ≠ [] → A = some ⟨b0, off0, none⟩) ∧ (l ≠ [] → ob = some b0) ∧ (∀ b, ob = some b → b < w.heap.size) ∧ (l ≠ [] → ∃ cs t fz, w.heap[b0]? = some (.cells cs t fz)) := by
  cases l with
  | nil => exact ⟨0, 0, none, fun h => absurd rfl h, fun h => absurd rfl h, fun b hb => (by cases hb), fun h => absurd rfl h⟩
  | cons t l =>
    obtain ⟨-, b, off, e, h2⟩ := h.2 0 t rfl
    obtain ⟨cs, ty, fz, ho⟩ := heap_of_cell h2
    exact ⟨b, off, some b, fun _ => e, fun _ => rfl, fun b' hb' => (by cases hb'; exact (Array.getElem?_eq_some_iff.1 ho).1), fun _ => ⟨cs, ty, fz, ho⟩⟩

set_option maxRecDepth 100000 in
set_option maxHeartbeats 4000000 in
theorem values_tells (n : Nat) (hn : 1 ≤ n) (bl cap b0 off0 : Nat) (bs : List (List UInt8)) (A : Option Addr) (hbs : bs.length ≤ 100000) (hA : bs ≠ [] → A = some ⟨b0, off0, none⟩) (w : World) (ob : Option Nat) (hob : bs ≠ [] → ob = some b0) (hho : bs ≠ [] → ∃ cs t fz, w.heap[b0]? = some (.cells cs t fz))
    (hbl : Bk w bl 23 #[.slice A bs.length cap]) (hS : Strs w A cap bs) :
    Tells Fence.wide n Try.prog 38 #[.pointer (some ⟨bl, 0, none⟩)] encV (valT ob) 2 w.heap.size bs w := by
  intro l J Jx W o hsz hJ hJx hY h0
  have cb := (hbl.old o).cell 0
  simp only [List.getElem?_toArray, List.getElem?_cons_zero] at cb
  have HO := Lib.hid (fun h : bs ≠ [] => (show ∃ cs t fz, W.heap[b0]? = some (.cells cs t fz) by
    obtain ⟨cs, t, fz, ho⟩ := hho h
    exact ⟨cs, t, fz, (o.block _ (Array.getElem?_eq_some_iff.1 ho).1).trans ho⟩))
  have HS := Lib.hid (hS.old o)
  clear hbl hS hho
  refine callsIn_of_wp Try.func38 rfl trivial ?_ rfl
  simp only [Try.ntmps38, List.size_toArray, List.length_cons, List.length_nil, Nat.reduceAdd, Nat.reduceSub, Array.replicate_succ, Array.replicate_zero, List.push_toArray, List.append_toArray, List.nil_append, List.cons_append]
  gi_wp2_with fail
  gi_loopw [7] (fun v wr => ∃ k : Nat, v = .int .i64 (k : Int) ∧ k ≤ bs.length ∧ Hid (bs ≠ [] → wr.heap[b0]? = W.heap[b0]?) ∧ Hid (J k wr) ∧ W.heap.size ≤ wr.heap.size)
    (fun v _ => bs.length - (intOf v).toNat)
  case atStart => exact ⟨0, rfl, Nat.zero_le _, Lib.hid fun _ => rfl, Lib.hid h0, Nat.le_refl _⟩
  case round =>
    obtain ⟨k, rfl, hk, HB, HJ, hss⟩ := hrel
    by_cases hlt : k < bs.length
    · obtain ⟨t, HX⟩ : ∃ t, Hid (bs[k]? = some t) := ⟨bs[k], Lib.hid (List.getElem?_eq_getElem hlt)⟩
      have hne : bs ≠ [] := by rintro rfl; simp at hlt
      obtain rfl := hA hne
      obtain ⟨hln, b', off', e, hx⟩ := (strs_blk HS.out (HB.out hne)).2 k t HX.out
      simp only [Option.some.injEq, Addr.mk.injEq, and_true] at e
      obtain ⟨rfl, rfl⟩ := e
      obtain ⟨cs, ty, fz, ho⟩ := HO.out hne
      have ho2 := (HB.out hne).trans ho
      have HM := Lib.hid (show mine (valT ob) b0 (.cells cs ty fz) = true by rw [mine, valT, hob hne]; simp)
      have HK := Lib.hid ho
      have HK2 := Lib.hid ho2
      obtain ⟨fn, tmps, assign, body, hy, hR⟩ := hY k t wr HX.out (by omega) HJ.out
      dsimp only [encV] at hy
      have i1 : (k : Int) < (bs.length : Int) := by omega
      have i2 : (0 : Int) ≤ (k : Int) := by omega
      clear hln ho ho2
      gi_wp2_with fail
      refine hR.mono ?_
      rintro e W3 (⟨rfl, hJ3, hk3⟩ | ⟨rfl, hJx3⟩)
      · have HJ3 := Lib.hid hJ3
        have HB3 := Lib.hid (fun _ : bs ≠ [] => (hk3.2 _ _ HK2.out HM.out).trans HK.out.symm)
        have hs3 := Nat.le_trans hss hk3.1
        clear hJ3 hk3 hy hR
        gi_wp2
        exact ⟨⟨k + 1, by go_num, by omega, HB3, HJ3, hs3⟩, by simp [intOf]; omega⟩
      · have HJx := Lib.hid hJx3
        clear hJx3 hy hR
        gi_wp2
        first | refine bodyPost_ret (results_none rfl _ _ _) rfl ?_ | refine bodyPost_end (results_none rfl _ _ _) rfl ?_
        exact ⟨⟨_, rfl⟩, .inr ⟨k + 1, by omega, HJx.out⟩⟩
    · obtain rfl : k = bs.length := by omega
      gi_wp2
      refine bodyPost_end (results_none rfl _ _ _) rfl ?_
      exact ⟨⟨_, rfl⟩, .inl HJ.out⟩

/-- A slice of texts, of the call's own. -/
def OwnT (w : World) (base : Nat) (v : Value) (l : List (List UInt8)) : Prop := w.ownsRow base 9 1 v l.length (l.map fun t => Value.string (B t))
/-- Between two rounds of AppendSeq. -/
structure ApI (w : World) (gs : Nat) (v : Value) (l : List (List UInt8)) (Z : World) : Prop where
  kx : Bk Z gs 23 #[v]
  ow : OwnT Z w.heap.size v l
  od : Old w Z
theorem OwnT.blk {w : World} {base : Nat} {v : Value} {l : List (List UInt8)} (h : OwnT w base v l) {j : Nat} (hj : v.ownBlock = some j) : base ≤ j ∧ ∃ cs, Bk w j 9 cs := by
  rcases h.2 with ⟨rfl, -⟩ | ⟨g, cap, cur, rfl, hb, hg, -⟩
  · cases hj
  · have e : g = j := by simpa [Value.ownBlock] using hj
    subst e
    exact ⟨hb, cur, hg⟩
theorem OwnT.keep {w w' : World} {base : Nat} {v : Value} {l : List (List UInt8)} (h : OwnT w base v l) (k : ∀ j o, v.ownBlock = some j → w.heap[j]? = some o → w'.heap[j]? = some o) : OwnT w' base v l := by
  refine ⟨h.1, ?_⟩
  rcases h.2 with h1 | ⟨g, cap, cur, rfl, hb, hg, rest⟩
  · exact .inl h1
  · exact .inr ⟨g, cap, cur, rfl, hb, k g _ rfl hg, rest⟩
theorem ApI.its {w : World} {gs g : Nat} {ob : Option Nat} {v : Value} {l : List (List UInt8)} {A Z : World} (h : ApI w gs v l A) (i : Its (valT ob) g A Z) (hob : ∀ b, ob = some b → b < w.heap.size) (h1 : w.heap.size ≤ gs) (h2 : gs < g) : ApI w gs v l Z := by
  refine ⟨i.block _ _ h.kx (.inl h2), h.ow.keep fun j o hj ho => ?_, its_old h.od i (by omega)⟩
  obtain ⟨hb, cs, hc⟩ := h.ow.blk hj
  rw [show A.heap[j]? = _ from hc] at ho
  cases ho
  refine i.block j _ hc (.inr ⟨rfl, ?_⟩)
  rw [mine, valT]
  cases ob with
  | none => simp
  | some b => have := hob b rfl; simp; omega
/-- A text more, between two rounds. -/
theorem ap_push {w W : World} {gs g : Nat} {ob : Option Nat} {v : Value} {l : List (List UInt8)} {t : List UInt8} (hP : ApI w gs v l W) (hgs : w.heap.size ≤ gs) (hobs : ∀ b, ob = some b → b < w.heap.size) {v' : Value} {w' : World}
    (hown : w'.ownsRow w.heap.size 9 1 v' (l.length + 1) ((l.map fun t => Value.string (B t)) ++ [Value.string (B t)])) (hg1 : (W.alloc (.cells #[.string (B t)] 9)).grownBy w' v.ownBlock) :
    Bk w' gs 23 #[v] ∧ (∃ A k c, v' = .slice A k c) ∧ ApI w gs v' (l ++ [t]) (w'.setCell ⟨gs, 0, none⟩ v') ∧ Bod (valT ob) g W (w'.setCell ⟨gs, 0, none⟩ v') := by
  have o9 := old_alloc W (.cells #[.string (B t)] 9)
  have kx9 := hP.kx.old o9
  have ow9 := hP.ow.keep (fun j o _ ho => (o9.block j (Array.getElem?_eq_some_iff.1 ho).1).trans ho)
  have kx' : Bk w' gs 23 #[v] := Bk.grown kx9 hg1 fun hq => by
    obtain ⟨-, cs, hc⟩ := ow9.blk hq.symm
    exact absurd (kx9.uniq hc) (by decide)
  have hT : OwnT w' w.heap.size v' (l ++ [t]) := by
    unfold OwnT
    rw [List.map_append, List.length_append]
    exact hown
  have hne : ∀ j, v'.ownBlock = some j → gs ≠ j := fun j hj => by
    rintro rfl
    obtain ⟨-, cs, hc⟩ := hT.blk hj
    exact absurd (kx'.uniq hc) (by decide)
  have o1 : Old w w' := (hP.od.tr o9).trans ((Below.refl _ _).grown hg1 (hP.od.tr o9).size (fun k hk => (hP.ow.blk hk).1))
  refine ⟨kx', ?_, ⟨by simpa using Bk.set_ kx' 0 v', hT.keep fun j o hj ho => Bk.far_any w' ho (hne j hj) v', o1.st (p := ⟨gs, 0, none⟩) hgs _⟩, ?_⟩
  · rcases hown.2 with ⟨rfl, -⟩ | ⟨g, cap, cur, rfl, -⟩
    · exact ⟨_, _, _, rfl⟩
    · exact ⟨_, _, _, rfl⟩
  · have hno : ∀ j t, w.heap.size ≤ j → valT ob j t = false := fun j t hj => by
      rw [valT]
      cases ob with
      | none => rfl
      | some b => have := hobs b rfl; simp; omega
    have b2 : Bod (valT ob) g (W.alloc (.cells #[.string (B t)] 9)) w' := by
      refine ⟨hg1.size, fun i ob' ho hx => (hg1.block i (Array.getElem?_eq_some_iff.1 ho).1 fun hq => ?_).trans ho⟩
      obtain ⟨hb, cs, hc⟩ := ow9.blk hq.symm
      rw [show _ = _ from hc] at ho
      cases ho
      rcases hx with hx | hx
      · cases hx.2
      · rw [mine, hno i _ hb] at hx
        cases hx
    exact ((Bod.of_old o9).tr b2).st kx' (hno _ _ hgs) 0 v'

set_option maxRecDepth 100000 in
set_option maxHeartbeats 4000000 in
theorem appendSeq_in (n : Nat) (hn : 3 ≤ n) (w : World) (bl cap : Nat) (bs : List (List UInt8)) (A : Option Addr) (hbs : bs.length ≤ 100000) (hbl : Bk w bl 23 #[.slice A bs.length cap]) (hS : Strs w A cap bs) :
    CallsIn Fence.wide n Try.prog 43 #[.slice none 0 0, .func (.func 38) #[] #[.pointer (some ⟨bl, 0, none⟩)]] w fun e W' => ∃ u, e = .returned u ∧ OwnT W' w.heap.size u bs ∧ Old w W' := by
  have h1 : 1 ≤ n := by omega
  obtain ⟨b0, off0, ob, hA, hob, hobs, hho⟩ := strs_place hS
  refine callsIn_of_wp_marks Try.func43 rfl trivial ?_ rfl
  simp only [Try.ntmps43, List.size_toArray, List.length_cons, List.length_nil, Nat.reduceAdd, Nat.reduceSub, Array.replicate_succ, Array.replicate_zero, List.push_toArray, List.append_toArray, List.nil_append, List.cons_append]
  have o0 := old_alloc w (.cells #[.slice none 0 0] 23)
  have k0 := new_bk w 23 #[.slice none 0 0]
  have hts := values_tells (n - 1) (by omega) bl cap b0 off0 bs A hbs hA (w.alloc (.cells #[.slice none 0 0] 23)) ob hob (fun h => by
    obtain ⟨cs, t, fz, ho⟩ := hho h
    exact ⟨cs, t, fz, (o0.block _ (Array.getElem?_eq_some_iff.1 ho).1).trans ho⟩) (hbl.old o0) (hS.old o0)
  have hsz : (w.alloc (.cells #[.slice none 0 0] 23)).heap.size = w.heap.size + 1 := by simp
  clear hA hob hho hS hbl
  gi_wp2_with fail
  generalize w.alloc (.cells #[.slice none 0 0] 23) = W0 at *
  have hg2 : w.heap.size < W0.heap.size := by omega
  have hgs : w.heap.size ≤ w.heap.size := Nat.le_refl _
  obtain ⟨i0, hi, hz0, hz1, hz2⟩ := info_parts Try.infoStr
  refine range_its (encs := encV) (T := valT ob) (L := bs) rfl h1 (gf := 38) (lb := #[.pointer (some ⟨bl, 0, none⟩)]) rfl trivial (enters_of Try.func38 (by kernel_rfl) rfl)
    hts (fun _ => rfl)
    (fun k W => ∃ v, ApI w w.heap.size v (bs.take k) W) (fun _ _ _ => False)
    (fun _ _ _ i ⟨v, h⟩ => ⟨v, h.its i hobs hgs hg2⟩) (fun _ _ _ _ _ h => h)
    ⟨_, k0, World.ownsRow_nil _ _ _ _, o0⟩
    (fun k x a' W => (∃ v, ApI w w.heap.size v (bs.take k) W) ∧ a' = { tmps := #[.slice none 0 0, .func (.func 38) #[] #[.pointer (some ⟨bl, 0, none⟩)], .pointer (some ⟨w.heap.size, 0, none⟩), undef, .slice none 0 0, .string (B x), .func (.func 38) #[] #[.pointer (some ⟨bl, 0, none⟩)], .string (B x), undef, undef, undef, undef, undef], defers := [] })
    ?ax ?assign ?body ?done ?stop
  case ax =>
    rintro k x a' W l o o' hl ho hc ⟨⟨v, hP⟩, rfl⟩
    exact ⟨⟨v, hP.its (.put _ hl ho hc) hobs hgs hg2⟩, rfl⟩
  case assign =>
    intro l k x W K hx h3 hP hK
    dsimp only [encV]
    gi_wp2
    exact hK _ _ (Bod.re _ _ _) ⟨hP, rfl⟩
  case body =>
    rintro l' k x a' W hx ⟨⟨v, hP⟩, rfl⟩
    have hk := (List.getElem?_eq_some_iff.1 hx).1
    have cb := hP.kx.cell 0
    simp only [List.getElem?_toArray, List.getElem?_cons_zero] at cb
    have HP := Lib.hid hP
    have hos := hP.od.size
    obtain ⟨A3, n3, c3, fv⟩ : ∃ A k c, v = .slice A k c := by
      rcases hP.ow.2 with ⟨rfl, -⟩ | ⟨g, cap, cur, rfl, -⟩ <;> exact ⟨_, _, _, rfl⟩
    have hrow := hP.ow
    unfold OwnT at hrow
    have hl9 : (bs.take k).length ≤ 100000 := by rw [List.length_take]; omega
    subst fv
    have cb2 : (W.alloc (.cells #[.string (B x)] 9)).cell? ⟨w.heap.size, 0, none⟩ = some (.slice A3 n3 c3) := cell_old cb (old_alloc _ _)
    clear hts
    gi_wp2_with (first
      | (gi_at_builtin; refine wpListIn_append_own _ rfl _ _ 23 rfl w.heap.size 9 i0 (.string ⟨#[]⟩) 1 16 Try.underlying23 hi hz0 hz1 hz2 rfl (by decide) _ _ _ rfl (hrow.alloc _) ⟨W.heap.size, 0, none⟩ 1 1 [.string (B x)] rfl rfl (by intro j u hu; cases j with
          | zero => (simp at hu; subst hu; rw [Addr.add_lit]; exact (new_bk W 9 #[.string (B x)]).cell 0)
          | succ j => simp at hu) (by simp [Value.oneCell']) (by unfold maxLen; omega) (by omega) (by simp; omega) ?_; intro v' w3 hown' hg3 _; refine Hid.out ?_)
      | fail)
    obtain ⟨kx', ⟨A4, n4, c4, rfl⟩, hA5, hB5⟩ := ap_push (g := W0.heap.size) HP.out hgs hobs hown' hg3
    rw [take_at hx] at hA5
    have HZ := Lib.hid (And.intro hA5 hB5)
    have c5 := kx'.cell 0
    have f5 := kx'.fr 0
    simp only [List.getElem?_toArray, List.getElem?_cons_zero] at c5
    refine Lib.hid ?_
    clear hA5 hB5 hown' hg3 kx' hrow hP
    gi_wp2
    exact ⟨HZ.out.2, _, HZ.out.1⟩
  case done =>
    rintro D W hD ⟨v, hP⟩ hK
    have cb := hP.kx.cell 0
    simp only [List.getElem?_toArray, List.getElem?_cons_zero] at cb
    obtain ⟨A3, n3, c3, rfl⟩ : ∃ A k c, v = .slice A k c := by
      rcases hP.ow.2 with ⟨rfl, -⟩ | ⟨g, cap, cur, rfl, -⟩ <;> exact ⟨_, _, _, rfl⟩
    gi_wp2
    refine ⟨by simp, .inl ⟨_, _, rfl, run_takeDeferred hK, ?_⟩⟩
    have i2 : Its (valT ob) W0.heap.size W (W.putObj D (.deferred none)) := .put _ hD hK rfl
    have h2 := hP.its i2 hobs hgs hg2
    have how := h2.ow
    rw [List.take_length] at how
    exact ⟨_, results_tmp rfl _ _ _, .slice A3 n3 c3, rfl, how, h2.od⟩
  case stop =>
    rintro D c k W _ _ h _
    exact h.elim

set_option maxHeartbeats 1000000 in
theorem collect_in (n : Nat) (hn : 4 ≤ n) (w : World) (bl cap : Nat) (bs : List (List UInt8)) (A : Option Addr) (hbs : bs.length ≤ 100000) (hbl : Bk w bl 23 #[.slice A bs.length cap]) (hS : Strs w A cap bs) :
    CallsIn Fence.wide n Try.prog 36 #[.func (.func 38) #[] #[.pointer (some ⟨bl, 0, none⟩)]] w fun e W' => ∃ u, e = .returned u ∧ OwnT W' w.heap.size u bs ∧ Old w W' := by
  refine callsIn_of_wp Try.func36 rfl trivial ?_ rfl
  simp only [Try.ntmps36, List.size_toArray, List.length_cons, List.length_nil, Nat.reduceAdd, Nat.reduceSub, Array.replicate_succ, Array.replicate_zero, List.push_toArray, List.append_toArray, List.nil_append, List.cons_append]
  gi_wp2_with fail
  refine ⟨trivial, fun _ => by omega, (appendSeq_in (n - 1) (by omega) w bl cap bs A hbs hbl hS).mono ?_⟩
  rintro e w1 ⟨u, rfl, h1, o1⟩
  obtain ⟨A3, n3, c3, rfl⟩ : ∃ A k c, u = .slice A k c := by
    rcases h1.2 with ⟨rfl, -⟩ | ⟨g, cap, cur, rfl, -⟩ <;> exact ⟨_, _, _, rfl⟩
  gi_wp2
  go_ret
  exact ⟨_, rfl, h1, o1⟩
theorem OwnT.strs {w : World} {base n cap : Nat} {A : Option Addr} {l : List (List UInt8)} (h : w.ownsRow base 9 1 (.slice A n cap) l.length (l.map encStr)) (hl : ∀ t ∈ l, t.length ≤ maxLen) : Strs w A cap l := by
  rcases h.2 with ⟨h1, h0⟩ | ⟨g, cap', cur, e, hb, hg, hnc, _, hs, ht⟩
  · have : l = [] := List.eq_nil_of_length_eq_zero h0
    subst this
    exact ⟨Nat.zero_le _, fun i t ht => by simp at ht⟩
  · simp only [Value.slice.injEq] at e
    obtain ⟨rfl, rfl, rfl⟩ := e
    refine ⟨hnc, fun i t hi => ⟨hl t (List.mem_of_getElem? hi), g, 0, rfl, ?_⟩⟩
    have h1 : (l.map encStr)[i]? = some (encStr t) := by rw [List.getElem?_map, hi]; rfl
    rw [← ht, List.getElem?_take, if_pos (by rw [Nat.mul_one]; exact (List.getElem?_eq_some_iff.1 hi).1)] at h1
    rw [Nat.zero_add, Bk.cell (show Bk w g 9 cur from hg)]
    simpa using h1
def upL (bs : List (List UInt8)) : List (List UInt8) := bs.mergeSort fun x y => decide (x ≤ y)
theorem upL_perm (bs : List (List UInt8)) : (upL bs).Perm bs := List.mergeSort_perm _ _
theorem upL_len (bs : List (List UInt8)) : (upL bs).length = bs.length := (upL_perm bs).length_eq
theorem le_leT {x y : List UInt8} (h : x ≤ y) : leT x y = true := by
  rw [not_less, bytesLess_eq, Bool.not_eq_true', decide_eq_false_iff_not]
  exact h
theorem upL_sorted (bs : List (List UInt8)) : Sorted (upL bs) := by
  have tr : ∀ a b c : List UInt8, decide (a ≤ b) = true → decide (b ≤ c) = true → decide (a ≤ c) = true := fun a b c h1 h2 => by simp only [decide_eq_true_eq] at *; exact List.le_trans h1 h2
  have tt : ∀ a b : List UInt8, (decide (a ≤ b) || decide (b ≤ a)) = true := fun a b => by simp only [Bool.or_eq_true, decide_eq_true_eq]; exact List.le_total a b
  have h1 : (upL bs).Pairwise fun a b => decide (a ≤ b) = true := List.pairwise_mergeSort tr tt bs
  rw [List.pairwise_iff_getElem] at h1
  intro i j s t hij hs ht
  obtain ⟨g1, rfl⟩ := List.getElem?_eq_some_iff.1 hs
  obtain ⟨g2, rfl⟩ := List.getElem?_eq_some_iff.1 ht
  rcases Nat.lt_or_ge i j with g | g
  · exact le_leT (by simpa using h1 i j g1 g2 g)
  · have : i = j := by omega
    subst this
    exact leT_refl _
theorem upL_place (bs : List (List UInt8)) (r : List UInt8) : place (upL bs) r = place bs r := (upL_perm bs).countP_eq _

set_option maxHeartbeats 2000000 in
theorem sorted_in (n : Nat) (hn : 5 ≤ n) (w : World) (bl cap : Nat) (bs : List (List UInt8)) (A : Option Addr) (hbs : bs.length ≤ 100000) (hbl : Bk w bl 23 #[.slice A bs.length cap]) (hS : Strs w A cap bs) :
    CallsIn Fence.wide n Try.prog 27 #[.func (.func 38) #[] #[.pointer (some ⟨bl, 0, none⟩)]] w fun e W' => ∃ A2 c2, e = .returned (.slice A2 (upL bs).length c2) ∧ Strs W' A2 c2 (upL bs) ∧ Old w W' := by
  have hml : ∀ t ∈ bs, t.length ≤ maxLen := fun t ht => by
    obtain ⟨i, hi, rfl⟩ := List.getElem_of_mem ht
    exact (hS.2 i _ (List.getElem?_eq_getElem hi)).1
  refine callsIn_of_wp Try.func27 rfl trivial ?_ rfl
  simp only [Try.ntmps27, List.size_toArray, List.length_cons, List.length_nil, Nat.reduceAdd, Nat.reduceSub, Array.replicate_succ, Array.replicate_zero, List.push_toArray, List.append_toArray, List.nil_append, List.cons_append]
  gi_wp2_with fail
  refine ⟨trivial, fun _ => by omega, (collect_in (n - 1) (by omega) w bl cap bs A hbs hbl hS).mono ?_⟩
  rintro e W ⟨u, rfl, hrow, hb⟩
  have hsort := Lib.hid (callsIn_wide.2 (AnyM.slices_Sort_string_none Try.sort37 none 0 W) : CallsIn Fence.wide (n - 1) Try.prog 37 _ _ _)
  rcases hrow.2 with ⟨rfl, hz⟩ | ⟨gb, cap', cur, rfl, hbase, hgb, r1, r2, r3, r4⟩
  · have hss : bs = [] := List.eq_nil_of_length_eq_zero hz
    subst hss
    gi_wp2_with fail
    refine ⟨trivial, fun _ => by omega, hsort.out.mono ?_⟩
    rintro e w' ⟨rfl, rfl⟩
    gi_wp2
    go_ret
    exact ⟨none, 0, by rw [upL_len]; rfl, ⟨by simp [upL], fun i t ht => by simp [upL] at ht⟩, hb⟩
  · clear hsort
    have e1 : (bs.map fun t => Value.string (B t)) = bs.map encStr := rfl
    rw [e1] at r4
    have hH : Holds encStr W gb 0 bs.toArray := holds_of_block hgb (by simpa using r4)
    have hgl : gb < W.heap.size := (Array.getElem?_eq_some_iff.1 hgb).1
    have cS := (callsIn_wide.2 (AnyM.slices_Sort_string Try.sort37 gb 0 cap' bs W hH hgl (by omega)) : CallsIn Fence.wide (n - 1) Try.prog 37 _ _ _)
    have HB := Lib.hid hb
    have HG := Lib.hid (And.intro hbase (And.intro hgb (And.intro r1 (And.intro r2 r3))))
    clear hH hrow r4 hb hgb
    gi_wp2_with fail
    refine ⟨trivial, fun _ => by omega, cS.mono ?_⟩
    rintro e w' ⟨rfl, nn, os, rfl⟩
    obtain ⟨q1, q2, q3, q4, q5⟩ := HG.out
    have hrow2 := ownsRow_sorted (os := os) (n := nn) (ss := bs) (ts := upL bs) (upL_len bs) q1 q2 q3 q4 q5
    have hbz := HB.out.grown (grownBy_sorted (n := nn) (os := os) (g := gb) (upL bs).toArray) HB.out.size (fun j hj => by cases hj; exact hbase)
    have HF := Lib.hid (OwnT.strs (l := upL bs) (by rw [upL_len]; exact hrow2) (fun t ht => hml t ((upL_perm bs).mem_iff.1 ht)))
    clear hrow2 q1 q2 q3 q4 q5 cS
    gi_wp2
    go_ret
    refine ⟨_, _, ?_, HF.out, hbz⟩
    rw [upL_len]
    rfl
set_option maxHeartbeats 2000000 in
theorem place_any (w : World) (A : Option Addr) (cap : Nat) (bs : List (List UInt8)) (r : List UInt8) (hbs : bs.length ≤ 100000) (hS : Strs w A cap bs) :
    Calls Try.prog 16 #[.slice A bs.length cap, .string (B r)] w fun e w' => e = .returned (.int .i64 (place bs r)) ∧ Old w w' := by
  have o1 := old_alloc w (.cells #[.slice A bs.length cap] 23)
  have CV := Lib.hid (callsIn_wide.1 (values_in 5 _ A bs.length cap rfl w))
  have CS := Lib.hid (callsIn_wide.1 (sorted_in 5 (by omega) (w.alloc (.cells #[.slice A bs.length cap] 23)) w.heap.size cap bs A hbs (new_bk _ _ _) (hS.old o1)))
  go_enter Try.func16, Try.ntmps16
  go_wp2_with fail
  refine CV.out.mono ?_
  rintro e w1 ⟨rfl, rfl⟩
  go_wp2_with fail
  refine CS.out.mono ?_
  rintro e w2 ⟨A2, c2, rfl, hS2, o2⟩
  have C3 := search_any A2 c2 (upL bs) r w2 hS2 (by rw [upL_len]; exact hbs) (upL_sorted bs)
  rw [upL_place] at C3
  have o3 := o1.tr o2
  clear hS2
  go_wp2_with fail
  refine C3.mono ?_
  rintro e w3 ⟨rfl, o4⟩
  have o5 := o3.tr o4
  clear C3
  go_wp2
  go_ret
  exact ⟨rfl, o5⟩
end Go.Proofs.Ytohokmfbcehkgaa
