/-
  A range over a function whose iterator keeps a state of its own in memory: blocks of types that the loop's body never writes. Nothing of a program here. Conditions: as written in the law.
-/
import Derived.Test.YthanenblcplbhaaCCel
import Derived.RangeFuncNested
import Derived.RangeFuncBound
import Derived.RangeFuncCalls
import Derived.RangeFuncLeaves
import Derived.RangeFuncBox
import Derived.Shelf.Abstract
import Derived.Shelf.RegionOpen
import Derived.OwnWalkIn
import Derived.TacticsInMore
import Derived.LoopNIn
import Derived.LoopIn
import Derived.Maps.AppendAt
namespace Go.Proofs.Ythanenblcplbhaa
open Go.RowKit Go.Shelf

/-- Cells of one of the iterator's types. -/
def mine (T : Nat → TypeId → Bool) (i : Nat) : Obj → Bool
  | .cells _ t _ => T i t
  | _ => false
/-- What the iterator, and the loop's book-keeping, may do: nothing below g, nothing to cells of other types. -/
structure Its (T : Nat → TypeId → Bool) (g : Nat) (A Z : World) : Prop where
  os : Z.os = A.os
  tape : Z.tape = A.tape
  output : Z.output = A.output
  size : A.heap.size ≤ Z.heap.size
  block : ∀ (i : Nat) (o : Obj), A.heap[i]? = some o → (i < g ∨ (o.isCells = true ∧ mine T i o = false)) → Z.heap[i]? = some o
/-- The same, where what is no cells stays too: the iterator's own steps. -/
structure Ste (T : Nat → TypeId → Bool) (g : Nat) (A Z : World) : Prop where
  its : Its T g A Z
  rest : ∀ (i : Nat) (o : Obj), A.heap[i]? = some o → o.isCells = false → Z.heap[i]? = some o
/-- The iterator's cells stay. -/
def Kep (T : Nat → TypeId → Bool) (A Z : World) : Prop := A.heap.size ≤ Z.heap.size ∧ ∀ (i : Nat) (o : Obj), A.heap[i]? = some o → mine T i o = true → Z.heap[i]? = some o
/-- What a round of the body keeps: the iterator's cells, and what is no cells. -/
structure Bod (T : Nat → TypeId → Bool) (g : Nat) (A Z : World) : Prop where
  size : A.heap.size ≤ Z.heap.size
  block : ∀ (i : Nat) (o : Obj), A.heap[i]? = some o → ((g ≤ i ∧ o.isCells = false) ∨ mine T i o = true) → Z.heap[i]? = some o

theorem Its.re (T : Nat → TypeId → Bool) (g : Nat) (A : World) : Its T g A A := ⟨rfl, rfl, rfl, Nat.le_refl _, fun _ _ h _ => h⟩
theorem Its.tr {T : Nat → TypeId → Bool} {g : Nat} {A C Z : World} (h : Its T g A C) (k : Its T g C Z) : Its T g A Z :=
  ⟨k.os.trans h.os, k.tape.trans h.tape, k.output.trans h.output, Nat.le_trans h.size k.size, fun i o ho hx => k.block i o (h.block i o ho hx) hx⟩
theorem Its.put {T : Nat → TypeId → Bool} {g l : Nat} {W : World} {o : Obj} (o' : Obj) (hl : g ≤ l) (h : W.heap[l]? = some o) (hc : o.isCells = false) : Its T g W (W.putObj l o') := by
  refine ⟨rfl, rfl, rfl, by simp, fun i u hu hx => ?_⟩
  have hne : i ≠ l := by
    rintro rfl
    rw [h] at hu
    injection hu with hu
    subst hu
    rcases hx with hx | hx
    · omega
    · rw [hc] at hx; cases hx.1
  exact (World.putObj_heap_other hne).trans hu
theorem Its.of_old {T : Nat → TypeId → Bool} {g : Nat} {A Z : World} (h : Old A Z) : Its T g A Z :=
  ⟨h.os, h.tape, h.output, h.size, fun i _ ho _ => (h.block i (Array.getElem?_eq_some_iff.1 ho).1).trans ho⟩
theorem Ste.re (T : Nat → TypeId → Bool) (g : Nat) (A : World) : Ste T g A A := ⟨Its.re _ _ _, fun _ _ h _ => h⟩
theorem Ste.tr {T : Nat → TypeId → Bool} {g : Nat} {A C Z : World} (h : Ste T g A C) (k : Ste T g C Z) : Ste T g A Z := ⟨h.its.tr k.its, fun i o ho hc => k.rest i o (h.rest i o ho hc) hc⟩
theorem Ste.of_old {T : Nat → TypeId → Bool} {g : Nat} {A Z : World} (h : Old A Z) : Ste T g A Z := ⟨.of_old h, fun i _ ho _ => (h.block i (Array.getElem?_eq_some_iff.1 ho).1).trans ho⟩
theorem Bod.re (T : Nat → TypeId → Bool) (g : Nat) (A : World) : Bod T g A A := ⟨Nat.le_refl _, fun _ _ h _ => h⟩
theorem Bod.tr {T : Nat → TypeId → Bool} {g : Nat} {A C Z : World} (h : Bod T g A C) (k : Bod T g C Z) : Bod T g A Z := ⟨Nat.le_trans h.size k.size, fun i o ho hx => k.block i o (h.block i o ho hx) hx⟩
theorem Bod.of_old {T : Nat → TypeId → Bool} {g : Nat} {A Z : World} (h : Old A Z) : Bod T g A Z := ⟨h.size, fun i _ ho _ => (h.block i (Array.getElem?_eq_some_iff.1 ho).1).trans ho⟩
theorem Bod.al {T : Nat → TypeId → Bool} {g : Nat} {A Z : World} (h : Bod T g A Z) (o : Obj) : Bod T g A (Z.alloc o) := h.tr (.of_old (old_alloc _ _))
theorem Bod.dr {T : Nat → TypeId → Bool} {g : Nat} {A Z : World} (h : Bod T g A Z) : Bod T g A Z.drew := ⟨h.size, h.block⟩
theorem Bod.st {T : Nat → TypeId → Bool} {g b : Nat} {A Z : World} {t : TypeId} {cs : Array Value} (h : Bod T g A Z) (hb : Bk Z b t cs) (hT : T b t = false) (o : Nat) (u : Value) : Bod T g A (Z.setCell ⟨b, o, none⟩ u) := by
  refine ⟨by simpa [World.setCell] using h.size, fun i ob ho hx => ?_⟩
  have h1 := h.block i ob ho hx
  refine (Below.heap_setCell Z ⟨b, o, none⟩ u i ?_).trans h1
  show i ≠ b
  rintro rfl
  rw [show Z.heap[i]? = _ from hb] at h1
  injection h1 with h1
  subst h1
  rcases hx with hx | hx
  · cases hx.2
  · rw [mine, hT] at hx; cases hx
theorem Bod.grown {T : Nat → TypeId → Bool} {g base n sz : Nat} {A Z W : World} {t : TypeId} {v : Value} {xs : List Value} (h : Bod T g A Z) (ho : Z.ownsRow base t sz v n xs) (hT : ∀ i, v.ownBlock = some i → T i t = false) (hg : Z.grownBy W v.ownBlock) : Bod T g A W := by
  refine h.tr ⟨hg.size, fun i o hi hx => ?_⟩
  refine (hg.block i (Array.getElem?_eq_some_iff.1 hi).1 ?_).trans hi
  intro e
  rcases ho.2 with ⟨rfl, _⟩ | ⟨g', cap, cur, rfl, hbg, hgc, _⟩
  · cases e
  · have : i = g' := by simpa [Value.ownBlock] using e
    subst this
    rw [hgc] at hi
    injection hi with hi
    subst hi
    rcases hx with hx | hx
    · cases hx.2
    · rw [mine, hT _ rfl] at hx; cases hx

/-- How a round of the body may end. -/
def endOf {T : Nat → TypeId → Bool} (g : Nat) (I : Nat → World → Prop) (Ix : Code → Nat → World → Prop) (k : Nat) (W : World) : Exit → Act → World → Prop
  | .normal, _, Z => Bod T g W Z ∧ I k Z
  | .ret, _, Z => Bod T g W Z ∧ Ix .ret k Z
  | .exit id, _, Z => Bod T g W Z ∧ Ix (.exit id) k Z
  | .goto t, _, Z => Bod T g W Z ∧ Ix (.goto t) k Z
  | .panic _, _, _ => False
  | .outgrown, _, _ => False

/-- An iterator that tells the things L, one by one: what is asked of the body, and what it promises. -/
def Tells {α : Type} (F : Fence) (n : Nat) (P : Program) (gf : Nat) (lb : Array Value) (encs : α → Array Value) (T : Nat → TypeId → Bool) (mz g : Nat) (L : List α) (w : World) : Prop :=
  ∀ (l : Nat) (J Jx : Nat → World → Prop) (W : World), Old w W → W.heap.size = g + 2 → (∀ k A Z, Ste T g A Z → J k A → J k Z) → (∀ k A Z, Ste T g A Z → Jx k A → Jx k Z) →
    (∀ k x W1, L[k]? = some x → g + mz ≤ W1.heap.size → J k W1 → YieldAt F (n - 1) P l (encs x) W1 fun e Z => (e = .returned (.bool true) ∧ J (k + 1) Z ∧ Kep T W1 Z) ∨ (e = .returned (.bool false) ∧ Jx (k + 1) Z)) →
    J 0 W → CallsIn F n P gf (#[.func (.yield l) #[] #[]] ++ lb) W fun e Z => (∃ v, e = .returned v) ∧ (J L.length Z ∨ ∃ k, k ≤ L.length ∧ Jx k Z)

variable {F : Fence} {n : Nat} {P : Program}
theorem range_its {α : Type} {g : Operand} {ps : Array Tmp} {assign body : Code} {Q : Exit → Act → World → Prop} {a : Act} {w : World}
    (hro : F.round = none) (h1 : 1 ≤ n) {gf : Nat} {lb : Array Value} (hg : a.eval g = .func (.func gf) #[] lb) (hFg : F.fn gf) (eg : ∀ args w, (callFunc gf args).run P w = .ok (.enter gf args) w)
    {encs : α → Array Value} {T : Nat → TypeId → Bool} {mz : Nat} {L : List α} (hseq : Tells F (n - 1) P gf lb encs T mz w.heap.size L w) (hps : ∀ x, (encs x).size = ps.size)
    (I : Nat → World → Prop) (Ix : Code → Nat → World → Prop) (hI : ∀ k A Z, Its T w.heap.size A Z → I k A → I k Z) (hIx : ∀ c k A Z, Its T w.heap.size A Z → Ix c k A → Ix c k Z) (h0 : I 0 w)
    (Ax : Nat → α → Act → World → Prop) (hAx : ∀ k x a' W l (o o' : Obj), w.heap.size ≤ l → W.heap[l]? = some o → o.isCells = false → Ax k x a' W → Ax k x a' (W.putObj l o'))
    (hassign : ∀ (l k : Nat) (x : α) (W : World) (K : Act → World → Prop), L[k]? = some x → w.heap.size + mz ≤ W.heap.size → I k W → (∀ a' Z, Bod T w.heap.size W Z → Ax k x a' Z → K a' Z) →
      assign.wpIn (F.inRound l) (n - 1 - 1) P (Exit.then K (fun _ _ _ => False)) { tmps := (ps.zip (encs x)).foldl (fun t (p, v) => t.setIfInBounds p v) a.tmps, defers := [] } W)
    (hbody : ∀ (l k : Nat) (x : α) (a' : Act) (W : World), L[k]? = some x → Ax k x a' W → body.wpIn (F.inRound l) (n - 1 - 1) P (endOf (T := T) w.heap.size I Ix (k + 1) W) a' W)
    (hdone : ∀ (D : Nat) (W : World), w.heap.size ≤ D → I L.length W → W.heap[D]? = some (.deferred (some [])) → Q .normal { a with defers := { target := .collected D, args := #[] } :: a.defers } W)
    (hstop : ∀ (D : Nat) (c : Code) (k : Nat) (W : World), w.heap.size ≤ D → k ≤ L.length → Ix c k W → W.heap[D]? = some (.deferred (some [])) → c.wpIn F n P Q { a with defers := { target := .collected D, args := #[] } :: a.defers } W) :
    (Code.rangeFunc g ps assign body).wpIn F n P Q a w := by
  refine wpIn_rangeFunc fun fn hfn => ?_
  rw [hro]
  -- the loop's record, by its state
  generalize hrec : (fun (st : LoopState) (pe : Option Code) => ({ state := st, pending := pe, fn, tmps := a.tmps, params := ps, assign, body, defers := w.heap.size } : Loop)) = rc
  have hready : (rc .ready none).state = .ready := by rw [← hrec]
  have hparams : ∀ st pe, (rc st pe).params = ps := by rw [← hrec]; intro _ _; rfl
  have hturn : ∀ st pe st' pe', ({ rc st pe with state := st', pending := pe' } : Loop) = rc st' pe' := by rw [← hrec]; intro _ _ _ _; rfl
  have hpend : ∀ st pe, (rc st pe).pending = pe := by rw [← hrec]; intro _ _; rfl
  have hstat : ∀ st pe, (rc st pe).state = st := by rw [← hrec]; intro _ _; rfl
  have henter : (Instr.enterLoop fn a.tmps ps assign body none).run P w = .ok (w.heap.size + 1, [{ target := .collected w.heap.size, args := #[] }]) ((w.alloc (.deferred (some []))).alloc (.loop (rc .ready none))) := by
    rw [← hrec]; exact run_enterLoop_outer _ _ _ _ _
  have hOld : Old w ((w.alloc (.deferred (some []))).alloc (.loop (rc .ready none))) := ((Old.re _).al _).al _
  have hL : ((w.alloc (.deferred (some []))).alloc (.loop (rc .ready none))).heap[w.heap.size + 1]? = some (.loop (rc .ready none)) := by
    have h := World.alloc_heap_new (w.alloc (.deferred (some []))) (.loop (rc .ready none))
    rwa [World.size_alloc] at h
  have hD : ((w.alloc (.deferred (some []))).alloc (.loop (rc .ready none))).heap[w.heap.size]? = some (.deferred (some [])) :=
    ((old_alloc _ _).block _ (by simp)).trans (World.alloc_heap_new w _)
  obtain ⟨W1, hW1⟩ : ∃ W1, (w.alloc (.deferred (some []))).alloc (.loop (rc .ready none)) = W1 := ⟨_, rfl⟩
  rw [hW1] at henter hOld hL hD
  have hsz1 : W1.heap.size = w.heap.size + 2 := by rw [← hW1]; simp
  clear hW1
  refine ⟨w.heap.size + 1, _, W1, { target := .fn (.func gf) lb, args := #[.func (.yield (w.heap.size + 1)) #[] #[]] }, W1, gf, #[.func (.yield (w.heap.size + 1)) #[] #[]] ++ lb, W1, henter, ?_, ?_, ?_, fun _ => h1, ?_⟩
  · simp only [resolve, hg]
    simp [go_sem]
  · intro f' hf'
    simp [Target.leads] at hf'
    subst hf'
    exact hFg
  · simp [invoke, go_sem, eg]
  -- behind the iterator
  refine (hseq (w.heap.size + 1) (fun k W => I k W ∧ W.heap[w.heap.size + 1]? = some (.loop (rc .ready none)) ∧ W.heap[w.heap.size]? = some (.deferred (some [])))
    (fun k W => ∃ c, Ix c k W ∧ W.heap[w.heap.size + 1]? = some (.loop (rc .done (some c))) ∧ W.heap[w.heap.size]? = some (.deferred (some []))) W1 hOld hsz1 ?_ ?_ ?_ ⟨hI _ _ _ (.of_old hOld) h0, hL, hD⟩).mono ?_
  · rintro k A Z hs ⟨hi, hl, hd⟩
    exact ⟨hI _ _ _ hs.its hi, hs.rest _ _ hl rfl, hs.rest _ _ hd rfl⟩
  · rintro k A Z hs ⟨c, hi, hl, hd⟩
    exact ⟨c, hIx _ _ _ _ hs.its hi, hs.rest _ _ hl rfl, hs.rest _ _ hd rfl⟩
  · -- a round
    rintro k x W hx h3 ⟨hi, hl, hd⟩
    have hy := run_yield (P := P) (args := encs x) hl (by rw [hparams]; exact hps x)
    rw [hparams] at hy
    have hfa : (rc .ready none).fn = fn ∧ (rc .ready none).tmps = a.tmps ∧ (rc .ready none).assign = assign ∧ (rc .ready none).body = body := by rw [← hrec]; exact ⟨rfl, rfl, rfl, rfl⟩
    rw [hfa.1, hfa.2.1, hfa.2.2.1, hfa.2.2.2] at hy
    refine ⟨fn, _, assign, body, hy, roundIn_of_wpIn hfn (hassign _ k x W _ hx h3 hi fun a' Z hb hax => ?_)⟩
    have hlZ := hb.block _ _ hl (.inl ⟨by omega, rfl⟩)
    have hdZ := hb.block _ _ hd (.inl ⟨Nat.le_refl _, rfl⟩)
    have hlt : w.heap.size + 1 < Z.heap.size := (Array.getElem?_eq_some_iff.1 hlZ).1
    have hbr := run_beginRound (P := P) hlZ hready
    have e0 : ({ rc .ready none with state := .busy } : Loop) = rc .busy none := hturn _ _ _ _ |>.symm ▸ (by rw [← hrec])
    rw [e0] at hbr
    refine ⟨_, hbr, wpIn_mono (hbody _ k x a' _ hx (hAx _ _ _ _ _ _ _ (by omega) hlZ rfl hax)) ?_⟩
    have hl2 : (Z.putObj (w.heap.size + 1) (.loop (rc .busy none))).heap[w.heap.size + 1]? = some (.loop (rc .busy none)) := World.putObj_heap_same hlt
    have hd2 : (Z.putObj (w.heap.size + 1) (.loop (rc .busy none))).heap[w.heap.size]? = some (.deferred (some [])) := (World.putObj_heap_other (by omega)).trans hdZ
    -- the record is turned again; the iterator's cells have stayed
    have hend : ∀ (jump : Option Code) (V : World), Bod T w.heap.size (Z.putObj (w.heap.size + 1) (.loop (rc .busy none))) V →
        (Instr.endRound (w.heap.size + 1) jump).run P V = .ok (.bool jump.isNone) (V.putObj (w.heap.size + 1) (.loop (rc (if jump.isNone then .ready else .done) jump))) ∧
        Its T w.heap.size V (V.putObj (w.heap.size + 1) (.loop (rc (if jump.isNone then .ready else .done) jump))) ∧
        (V.putObj (w.heap.size + 1) (.loop (rc (if jump.isNone then .ready else .done) jump))).heap[w.heap.size + 1]? = some (.loop (rc (if jump.isNone then .ready else .done) jump)) ∧
        (V.putObj (w.heap.size + 1) (.loop (rc (if jump.isNone then .ready else .done) jump))).heap[w.heap.size]? = some (.deferred (some [])) ∧
        Kep T W (V.putObj (w.heap.size + 1) (.loop (rc (if jump.isNone then .ready else .done) jump))) := by
      intro jump V hbV
      have hlV := hbV.block _ _ hl2 (.inl ⟨by omega, rfl⟩)
      have hdV := hbV.block _ _ hd2 (.inl ⟨Nat.le_refl _, rfl⟩)
      have hr := run_endRound (P := P) jump hlV
      rw [hturn] at hr
      refine ⟨hr, .put _ (by omega) hlV rfl, World.putObj_heap_same (Array.getElem?_eq_some_iff.1 hlV).1, (World.putObj_heap_other (by omega)).trans hdV, ?_, fun i o ho hm => ?_⟩
      · have s1 := hb.size
        have s2 := hbV.size
        simp only [World.putObj_size] at *
        omega
      · have hne : i ≠ w.heap.size + 1 := by
          rintro rfl
          rw [hl] at ho
          injection ho with ho
          subst ho
          cases hm
        have hZ := hb.block i o ho (.inr hm)
        exact (World.putObj_heap_other hne).trans (hbV.block i o ((World.putObj_heap_other hne).trans hZ) (.inr hm))
    rintro e a3 V hp
    cases e with
    | normal =>
      obtain ⟨hbV, hi3⟩ := hp
      obtain ⟨hr, hits, hl4, hd4, hk4⟩ := hend none V hbV
      exact ⟨_, _, hr, .inl ⟨rfl, ⟨hI _ _ _ hits hi3, hl4, hd4⟩, hk4⟩⟩
    | ret =>
      obtain ⟨hbV, hi3⟩ := hp
      obtain ⟨hr, hits, hl4, hd4, -⟩ := hend (some .ret) V hbV
      exact ⟨_, _, hr, .inr ⟨rfl, .ret, hIx _ _ _ _ hits hi3, hl4, hd4⟩⟩
    | exit id =>
      obtain ⟨hbV, hi3⟩ := hp
      obtain ⟨hr, hits, hl4, hd4, -⟩ := hend (some (.exit id)) V hbV
      exact ⟨_, _, hr, .inr ⟨rfl, .exit id, hIx _ _ _ _ hits hi3, hl4, hd4⟩⟩
    | goto t =>
      obtain ⟨hbV, hi3⟩ := hp
      obtain ⟨hr, hits, hl4, hd4, -⟩ := hend (some (.goto t)) V hbV
      exact ⟨_, _, hr, .inr ⟨rfl, .goto t, hIx _ _ _ _ hits hi3, hl4, hd4⟩⟩
    | panic ch => exact hp.elim
    | outgrown => exact hp.elim
  · rintro e Z ⟨⟨v, rfl⟩, (⟨hi, hl, hd⟩ | ⟨k, hk, c, hi, hl, hd⟩)⟩
    · have hr := run_endLoop (P := P) hl (by rw [hstat]; simp)
      rw [hpend] at hr
      exact ⟨none, _, hr, hdone _ _ (Nat.le_refl _) (hI _ _ _ (.put _ (by omega) hl rfl) hi) ((World.putObj_heap_other (by omega)).trans hd)⟩
    · have hr := run_endLoop (P := P) hl (by rw [hstat]; simp)
      rw [hpend] at hr
      exact ⟨some c, _, hr, hstop _ c k _ (Nat.le_refl _) hk (hIx _ _ _ _ (.put _ (by omega) hl rfl) hi) ((World.putObj_heap_other (by omega)).trans hd)⟩

/-- No operation here defers a call. -/
def noDefer (ops : Array Oper) : Bool := ops.all fun o => match o.op with
  | .defer _ => false
  | _ => true
theorem noDefer_at {ops : Array Oper} (h : noDefer ops = true) {i : Nat} {o : Oper} (ho : ops[i]? = some o) : ∀ c, o.op ≠ .defer c := by
  intro c hc
  unfold noDefer at h
  rw [Array.all_eq_true'] at h
  have := h o (Array.mem_of_getElem? ho)
  rw [hc] at this
  cases this
theorem oper_round {o : Oper} (hd : ∀ c, o.op ≠ .defer c) {l : Nat} {a : Act} {w : World} {K : Act → World → Prop} {Q : Exit → Act → World → Prop} (h : o.wpIn F n P a w K Q) : o.wpIn (F.inRound l) n P a w K Q := by
  refine ⟨h.1, ?_⟩
  have h2 := h.2
  rw [Oper.semAt_eq _ _ _ hd] at h2 ⊢
  exact h2
theorem wpAnyIn_round {md : Region.Mode} {ops : Array Oper} {Q : Exit → Act → World → Prop} (hd : noDefer ops = true) {l : Nat} : ∀ (fuel : Nat) (listed : Array Bool) (a : Act) (w : World), wpAnyIn F n P md ops Q fuel listed a w → wpAnyIn (F.inRound l) n P md ops Q fuel listed a w := by
  intro fuel
  induction fuel with
  | zero => intro listed a w h; exact h
  | succ fuel ih =>
    intro listed a w h
    refine ⟨h.1, fun i hi => ?_⟩
    have h2 := h.2 i hi
    unfold wpOpIn at h2 ⊢
    cases ho : ops[i]? with
    | none => rw [ho] at h2; exact ih _ _ _ h2
    | some o =>
      rw [ho] at h2
      simp only at h2 ⊢
      split
      · rename_i hw
        rw [if_pos hw] at h2
        exact oper_round (noDefer_at hd ho) (Oper.wpIn_mono (fun a w h => ih _ a w h) h2)
      · rename_i hw
        rw [if_neg hw] at h2
        exact ⟨h2.1, ih _ _ _ h2.2⟩
/-- A region in a round is walked as if there were no round. -/
theorem wpIn_region_round {id : Nat} {ops : Array Oper} {a : Act} {w : World} {Q : Exit → Act → World → Prop} (hm : P.follows .mixedOrders = true) (hd : noDefer ops = true) {l : Nat}
    (h : wpAnyIn F n P .any ops Q ops.size (Array.replicate ops.size false) a w.drew) : (Code.region id ops true).wpIn (F.inRound l) n P Q a w :=
  wpIn_region_any hm (wpAnyIn_round hd _ _ _ _ h)
end Go.Proofs.Ythanenblcplbhaa
