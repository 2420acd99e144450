/-
  A range over a function, at the wide fence, whose iterator ranges over such iterators itself: what is asked of the body, and what it promises. Nothing of a program here. Conditions: as written in the law.
-/
import Derived.Test.YthanenblcplbhaaCIts
import Derived.Test.YthanenblcplbhaaMTre
namespace Go.Proofs.Ythanenblcplbhaa
open Go.RowKit Go.Shelf

theorem room_none (k : Nat) : Fence.wide.room k := fun d h => by cases h
theorem RoundIn.any {m m' : Nat} {P : Program} {l : Nat} {f : FuncId} {tmps : Array Value} {assign body : Code} {w : World} {R : Ending → World → Prop} (h : RoundIn Fence.wide m P l f tmps assign body w R) : RoundIn Fence.wide m' P l f tmps assign body w R :=
  ⟨h.1, fun c cs _ => h.2 c cs (room_none _)⟩
theorem YieldAt.any {m m' : Nat} {P : Program} {l : Nat} {args : Array Value} {W : World} {R : Ending → World → Prop} (h : YieldAt Fence.wide m P l args W R) : YieldAt Fence.wide m' P l args W R := by
  obtain ⟨fn, tmps, assign, body, hy, hR⟩ := h
  exact ⟨fn, tmps, assign, body, hy, RoundIn.any hR⟩
theorem CallsIn.any {m m' : Nat} {P : Program} {f : FuncId} {args : Array Value} {w : World} {R : Ending → World → Prop} (h : CallsIn Fence.wide m P f args w R) : CallsIn Fence.wide m' P f args w R := callsIn_wide.2 (callsIn_wide.1 h)

theorem Its.less {T : Nat → TypeId → Bool} {g g' : Nat} {A Z : World} (h : Its T g' A Z) (hg : g ≤ g') : Its T g A Z :=
  ⟨h.os, h.tape, h.output, h.size, fun i o ho hx => h.block i o ho (hx.imp (fun h => by omega) id)⟩
/-- What a round leaves as it was: the iterator's cells, and what is no cells from g on. -/
structure Keeps (T : Nat → TypeId → Bool) (g : Nat) (A Z : World) : Prop where
  size : A.heap.size ≤ Z.heap.size
  mine : ∀ (i : Nat) (o : Obj), A.heap[i]? = some o → mine T i o = true → Z.heap[i]? = some o
  rest : ∀ (i : Nat) (o : Obj), A.heap[i]? = some o → o.isCells = false → g ≤ i → Z.heap[i]? = some o
theorem Keeps.re (T : Nat → TypeId → Bool) (g : Nat) (A : World) : Keeps T g A A := ⟨Nat.le_refl _, fun _ _ h _ => h, fun _ _ h _ _ => h⟩
theorem Keeps.tr {T : Nat → TypeId → Bool} {g : Nat} {A C Z : World} (h : Keeps T g A C) (k : Keeps T g C Z) : Keeps T g A Z :=
  ⟨Nat.le_trans h.size k.size, fun i o ho hm => k.mine i o (h.mine i o ho hm) hm, fun i o ho hc hg => k.rest i o (h.rest i o ho hc hg) hc hg⟩
theorem Keeps.of_old {T : Nat → TypeId → Bool} {g : Nat} {A Z : World} (h : Old A Z) : Keeps T g A Z :=
  ⟨h.size, fun i _ ho _ => (h.block i (Array.getElem?_eq_some_iff.1 ho).1).trans ho, fun i _ ho _ _ => (h.block i (Array.getElem?_eq_some_iff.1 ho).1).trans ho⟩
theorem Keeps.bk {T : Nat → TypeId → Bool} {g b : Nat} {A Z : World} {t : TypeId} {cs : Array Value} (h : Keeps T g A Z) (hb : Bk A b t cs) (hT : T b t = true) : Bk Z b t cs := h.mine b _ hb hT
theorem Keeps.its {T : Nat → TypeId → Bool} {g g' : Nat} {A C Z : World} (h : Keeps T g A C) (k : Its T g' C Z) (hg : A.heap.size ≤ g') : Keeps T g A Z :=
  ⟨Nat.le_trans h.size k.size, fun i o ho hm => k.block i o (h.mine i o ho hm) (.inl (Nat.lt_of_lt_of_le (Array.getElem?_eq_some_iff.1 ho).1 hg)),
    fun i o ho hc hi => k.block i o (h.rest i o ho hc hi) (.inl (Nat.lt_of_lt_of_le (Array.getElem?_eq_some_iff.1 ho).1 hg))⟩
theorem Keeps.bod {T : Nat → TypeId → Bool} {g g' : Nat} {A Z : World} (h : Keeps T g A Z) (hg : g ≤ g') : Bod T g' A Z :=
  ⟨h.size, fun i o ho hx => hx.elim (fun hx => h.rest i o ho hx.2 (Nat.le_trans hg hx.1)) (h.mine i o ho)⟩

/-- An iterator that tells the things L, one by one: what is asked of the body, and what it promises. -/
def Tels {α : Type} (P : Program) (gf : Nat) (lb : Array Value) (encs : α → Array Value) (T : Nat → TypeId → Bool) (g : Nat) (L : List α) (w : World) : Prop :=
  ∀ (n l : Nat) (J Jx : Nat → World → Prop) (W : World), Old w W → W.heap.size = g + 2 → (∀ k A Z, Its T (g + 2) A Z → J k A → J k Z) → (∀ k A Z, Its T (g + 2) A Z → Jx k A → Jx k Z) →
    (∀ k x W1 m, L[k]? = some x → g + 2 ≤ W1.heap.size → J k W1 → YieldAt Fence.wide m P l (encs x) W1 fun e Z => Keeps T (g + 2) W1 Z ∧ ∃ b : Bool, e = .returned (.bool b) ∧ ((b = true ∧ J (k + 1) Z) ∨ (b = false ∧ Jx (k + 1) Z))) →
    J 0 W → CallsIn Fence.wide n P gf (#[.func (.yield l) #[] #[]] ++ lb) W fun e Z => (∃ v, e = .returned v) ∧ (J L.length Z ∨ ∃ k, k ≤ L.length ∧ Jx k Z)

variable {n : Nat} {P : Program}
theorem range_tels {α : Type} {g : Operand} {ps : Array Tmp} {assign body : Code} {Q : Exit → Act → World → Prop} {a : Act} {w : World}
    (h1 : 1 ≤ n) {gf : Nat} {lb : Array Value} (hg : a.eval g = .func (.func gf) #[] lb) (eg : ∀ args w, (callFunc gf args).run P w = .ok (.enter gf args) w)
    {encs : α → Array Value} {T : Nat → TypeId → Bool} {L : List α} (hseq : Tels P gf lb encs T w.heap.size L w) (hps : ∀ x, (encs x).size = ps.size)
    (I : Nat → World → Prop) (Ix : Code → Nat → World → Prop) (hI : ∀ k A Z, Its T w.heap.size A Z → I k A → I k Z) (hIx : ∀ c k A Z, Its T w.heap.size A Z → Ix c k A → Ix c k Z) (h0 : I 0 w)
    (Ax : Nat → α → Act → World → Prop) (hAx : ∀ k x a' W l (o o' : Obj), w.heap.size ≤ l → W.heap[l]? = some o → o.isCells = false → Ax k x a' W → Ax k x a' (W.putObj l o'))
    (hassign : ∀ (l k : Nat) (x : α) (W : World) (K : Act → World → Prop), L[k]? = some x → w.heap.size + 2 ≤ W.heap.size → I k W → (∀ a' Z, Bod T w.heap.size W Z → Ax k x a' Z → K a' Z) →
      assign.wpIn (Fence.wide.inRound l) (n - 1 - 1) P (Exit.then K (fun _ _ _ => False)) { tmps := (ps.zip (encs x)).foldl (fun t (p, v) => t.setIfInBounds p v) a.tmps, defers := [] } W)
    (hbody : ∀ (l k : Nat) (x : α) (a' : Act) (W : World), L[k]? = some x → Ax k x a' W → body.wpIn (Fence.wide.inRound l) (n - 1 - 1) P (endOf (T := T) w.heap.size I Ix (k + 1) W) a' W)
    (hdone : ∀ (D : Nat) (W : World), w.heap.size ≤ D → I L.length W → W.heap[D]? = some (.deferred (some [])) → Q .normal { a with defers := { target := .collected D, args := #[] } :: a.defers } W)
    (hstop : ∀ (D : Nat) (c : Code) (k : Nat) (W : World), w.heap.size ≤ D → k ≤ L.length → Ix c k W → W.heap[D]? = some (.deferred (some [])) → c.wpIn Fence.wide n P Q { a with defers := { target := .collected D, args := #[] } :: a.defers } W) :
    (Code.rangeFunc g ps assign body).wpIn Fence.wide n P Q a w := by
  refine wpIn_rangeFunc fun fn hfn => ?_
  rw [show Fence.wide.round = none from rfl]
  -- the loop's record, by its state
  generalize hrec : (fun (st : LoopState) (pe : Option Code) => ({ state := st, pending := pe, fn, tmps := a.tmps, params := ps, assign, body, defers := w.heap.size } : Loop)) = rc
  have hready : (rc .ready none).state = .ready := by rw [← hrec]
  have hparams : ∀ st pe, (rc st pe).params = ps := by rw [← hrec]; intro _ _; rfl
  have hturn : ∀ st pe st' pe', ({ rc st pe with state := st', pending := pe' } : Loop) = rc st' pe' := by rw [← hrec]; intro _ _ _ _; rfl
  have hpend : ∀ st pe, (rc st pe).pending = pe := by rw [← hrec]; intro _ _; rfl
  have hstat : ∀ st pe, (rc st pe).state = st := by rw [← hrec]; intro _ _; rfl
  have henter : (Instr.enterLoop fn a.tmps ps assign body none).run P w = .ok (w.heap.size + 1, [{ target := .collected w.heap.size, args := #[] }]) ((w.alloc (.deferred (some []))).alloc (.loop (rc .ready none))) := by
    rw [← hrec]; exact run_enterLoop_outer _ _ _ _ _
  have hOld : Old w ((w.alloc (.deferred (some []))).alloc (.loop (rc .ready none))) := ((Old.re _).al _).al _
  have hL : ((w.alloc (.deferred (some []))).alloc (.loop (rc .ready none))).heap[w.heap.size + 1]? = some (.loop (rc .ready none)) := by
    have h := World.alloc_heap_new (w.alloc (.deferred (some []))) (.loop (rc .ready none))
    rwa [World.size_alloc] at h
  have hD : ((w.alloc (.deferred (some []))).alloc (.loop (rc .ready none))).heap[w.heap.size]? = some (.deferred (some [])) :=
    ((old_alloc _ _).block _ (by simp)).trans (World.alloc_heap_new w _)
  obtain ⟨W1, hW1⟩ : ∃ W1, (w.alloc (.deferred (some []))).alloc (.loop (rc .ready none)) = W1 := ⟨_, rfl⟩
  rw [hW1] at henter hOld hL hD
  have hsz1 : W1.heap.size = w.heap.size + 2 := by rw [← hW1]; simp
  clear hW1
  refine ⟨w.heap.size + 1, _, W1, { target := .fn (.func gf) lb, args := #[.func (.yield (w.heap.size + 1)) #[] #[]] }, W1, gf, #[.func (.yield (w.heap.size + 1)) #[] #[]] ++ lb, W1, henter, ?_, ?_, ?_, fun _ => h1, ?_⟩
  · simp only [resolve, hg]
    simp [go_sem]
  · intro f' hf'
    simp [Target.leads] at hf'
    subst hf'
    exact trivial
  · simp [invoke, go_sem, eg]
  -- behind the iterator
  refine (hseq (n - 1) (w.heap.size + 1) (fun k W => I k W ∧ W.heap[w.heap.size + 1]? = some (.loop (rc .ready none)) ∧ W.heap[w.heap.size]? = some (.deferred (some [])))
    (fun k W => ∃ c, Ix c k W ∧ W.heap[w.heap.size + 1]? = some (.loop (rc .done (some c))) ∧ W.heap[w.heap.size]? = some (.deferred (some []))) W1 hOld hsz1 ?_ ?_ ?_ ⟨hI _ _ _ (.of_old hOld) h0, hL, hD⟩).mono ?_
  · rintro k A Z hs ⟨hi, hl, hd⟩
    exact ⟨hI _ _ _ (hs.less (by omega)) hi, hs.block _ _ hl (.inl (by omega)), hs.block _ _ hd (.inl (by omega))⟩
  · rintro k A Z hs ⟨c, hi, hl, hd⟩
    exact ⟨c, hIx _ _ _ _ (hs.less (by omega)) hi, hs.block _ _ hl (.inl (by omega)), hs.block _ _ hd (.inl (by omega))⟩
  · -- a round
    rintro k x W m hx h3 ⟨hi, hl, hd⟩
    have hy := run_yield (P := P) (args := encs x) hl (by rw [hparams]; exact hps x)
    rw [hparams] at hy
    have hfa : (rc .ready none).fn = fn ∧ (rc .ready none).tmps = a.tmps ∧ (rc .ready none).assign = assign ∧ (rc .ready none).body = body := by rw [← hrec]; exact ⟨rfl, rfl, rfl, rfl⟩
    rw [hfa.1, hfa.2.1, hfa.2.2.1, hfa.2.2.2] at hy
    refine YieldAt.any (m := n - 1 - 1) ⟨fn, _, assign, body, hy, roundIn_of_wpIn hfn (hassign _ k x W _ hx h3 hi fun a' Z hb hax => ?_)⟩
    have hlZ := hb.block _ _ hl (.inl ⟨by omega, rfl⟩)
    have hdZ := hb.block _ _ hd (.inl ⟨Nat.le_refl _, rfl⟩)
    have hlt : w.heap.size + 1 < Z.heap.size := (Array.getElem?_eq_some_iff.1 hlZ).1
    have hbr := run_beginRound (P := P) hlZ hready
    have e0 : ({ rc .ready none with state := .busy } : Loop) = rc .busy none := hturn _ _ _ _ |>.symm ▸ (by rw [← hrec])
    rw [e0] at hbr
    refine ⟨_, hbr, wpIn_mono (hbody _ k x a' _ hx (hAx _ _ _ _ _ _ _ (by omega) hlZ rfl hax)) ?_⟩
    have hl2 : (Z.putObj (w.heap.size + 1) (.loop (rc .busy none))).heap[w.heap.size + 1]? = some (.loop (rc .busy none)) := World.putObj_heap_same hlt
    have hd2 : (Z.putObj (w.heap.size + 1) (.loop (rc .busy none))).heap[w.heap.size]? = some (.deferred (some [])) := (World.putObj_heap_other (by omega)).trans hdZ
    -- the record is turned again; the iterator's cells have stayed
    have hend : ∀ (jump : Option Code) (V : World), Bod T w.heap.size (Z.putObj (w.heap.size + 1) (.loop (rc .busy none))) V →
        (Instr.endRound (w.heap.size + 1) jump).run P V = .ok (.bool jump.isNone) (V.putObj (w.heap.size + 1) (.loop (rc (if jump.isNone then .ready else .done) jump))) ∧
        Its T w.heap.size V (V.putObj (w.heap.size + 1) (.loop (rc (if jump.isNone then .ready else .done) jump))) ∧
        (V.putObj (w.heap.size + 1) (.loop (rc (if jump.isNone then .ready else .done) jump))).heap[w.heap.size + 1]? = some (.loop (rc (if jump.isNone then .ready else .done) jump)) ∧
        (V.putObj (w.heap.size + 1) (.loop (rc (if jump.isNone then .ready else .done) jump))).heap[w.heap.size]? = some (.deferred (some [])) ∧
        Keeps T (w.heap.size + 2) W (V.putObj (w.heap.size + 1) (.loop (rc (if jump.isNone then .ready else .done) jump))) := by
      intro jump V hbV
      have hlV := hbV.block _ _ hl2 (.inl ⟨by omega, rfl⟩)
      have hdV := hbV.block _ _ hd2 (.inl ⟨Nat.le_refl _, rfl⟩)
      have hr := run_endRound (P := P) jump hlV
      rw [hturn] at hr
      refine ⟨hr, .put _ (by omega) hlV rfl, World.putObj_heap_same (Array.getElem?_eq_some_iff.1 hlV).1, (World.putObj_heap_other (by omega)).trans hdV, ?_, fun i o ho hm => ?_, fun i o ho hc hi => ?_⟩
      · have s1 := hb.size
        have s2 := hbV.size
        simp only [World.putObj_size] at *
        omega
      · have hne : i ≠ w.heap.size + 1 := by
          rintro rfl
          rw [hl] at ho
          injection ho with ho
          subst ho
          cases hm
        have hZ := hb.block i o ho (.inr hm)
        exact (World.putObj_heap_other hne).trans (hbV.block i o ((World.putObj_heap_other hne).trans hZ) (.inr hm))
      · have hne : i ≠ w.heap.size + 1 := by omega
        have hZ := hb.block i o ho (.inl ⟨by omega, hc⟩)
        exact (World.putObj_heap_other hne).trans (hbV.block i o ((World.putObj_heap_other hne).trans hZ) (.inl ⟨by omega, hc⟩))
    rintro e a3 V hp
    cases e with
    | normal =>
      obtain ⟨hbV, hi3⟩ := hp
      obtain ⟨hr, hits, hl4, hd4, hk4⟩ := hend none V hbV
      exact ⟨_, _, hr, hk4, true, rfl, .inl ⟨rfl, hI _ _ _ hits hi3, hl4, hd4⟩⟩
    | ret =>
      obtain ⟨hbV, hi3⟩ := hp
      obtain ⟨hr, hits, hl4, hd4, hk4⟩ := hend (some .ret) V hbV
      exact ⟨_, _, hr, hk4, false, rfl, .inr ⟨rfl, .ret, hIx _ _ _ _ hits hi3, hl4, hd4⟩⟩
    | exit id =>
      obtain ⟨hbV, hi3⟩ := hp
      obtain ⟨hr, hits, hl4, hd4, hk4⟩ := hend (some (.exit id)) V hbV
      exact ⟨_, _, hr, hk4, false, rfl, .inr ⟨rfl, .exit id, hIx _ _ _ _ hits hi3, hl4, hd4⟩⟩
    | goto t =>
      obtain ⟨hbV, hi3⟩ := hp
      obtain ⟨hr, hits, hl4, hd4, hk4⟩ := hend (some (.goto t)) V hbV
      exact ⟨_, _, hr, hk4, false, rfl, .inr ⟨rfl, .goto t, hIx _ _ _ _ hits hi3, hl4, hd4⟩⟩
    | panic ch => exact hp.elim
    | outgrown => exact hp.elim
  · rintro e Z ⟨⟨v, rfl⟩, (⟨hi, hl, hd⟩ | ⟨k, hk, c, hi, hl, hd⟩)⟩
    · have hr := run_endLoop (P := P) hl (by rw [hstat]; simp)
      rw [hpend] at hr
      exact ⟨none, _, hr, hdone _ _ (Nat.le_refl _) (hI _ _ _ (.put _ (by omega) hl rfl) hi) ((World.putObj_heap_other (by omega)).trans hd)⟩
    · have hr := run_endLoop (P := P) hl (by rw [hstat]; simp)
      rw [hpend] at hr
      exact ⟨some c, _, hr, hstop _ c k _ (Nat.le_refl _) hk (hIx _ _ _ _ (.put _ (by omega) hl rfl) hi) ((World.putObj_heap_other (by omega)).trans hd)⟩

end Go.Proofs.Ythanenblcplbhaa
