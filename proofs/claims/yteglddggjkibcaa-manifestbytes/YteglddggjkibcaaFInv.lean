/-
  A region that draws its order, by an invariant: if each operation, whenever it may come up, yields what it is meant to yield, the region ends with all of it, whatever the order. Nothing of a program here.
-/
import Derived.Test.YteglddggjkibcaaFEr
namespace Go.Proofs.Yteglddggjkibcaa
open Go.RowKit

section
variable {P : Program} {md : Region.Mode} {ops : Array Oper} {Q : Exit → Act → World → Prop}

/-- How many operations are still to come. -/
def toCome (ops : Array Oper) (listed : Array Bool) : List Nat := (List.range ops.size).filter fun i => !listed.getD i true
theorem toCome_set {listed : Array Bool} {i : Nat} (hi : i < ops.size) (h : listed.getD i true = false) : (toCome ops (listed.setIfInBounds i true)).length < (toCome ops listed).length := by
  have hlt : i < listed.size := by
    rcases Nat.lt_or_ge i listed.size with h1 | h1
    · exact h1
    · rw [Array.getD_eq_getD_getElem?, Array.getElem?_eq_none h1] at h; cases h
  have e : toCome ops (listed.setIfInBounds i true) = (toCome ops listed).filter fun j => !(listed.setIfInBounds i true).getD j true := by
    unfold toCome
    rw [List.filter_filter]
    congr 1
    funext j
    by_cases hj : i = j
    · subst hj
      simp [Array.getD_eq_getD_getElem?, hlt]
    · rw [getD_set_ne true hj]; simp
  rw [e]
  refine List.length_filter_lt_length_iff_exists.2 ⟨i, ?_, ?_⟩
  · unfold toCome
    rw [List.mem_filter, List.mem_range]
    exact ⟨hi, by simp [h]⟩
  · simp [Array.getD_eq_getD_getElem?, hlt]

theorem wpAny_inv (I : Array Bool → Act → World → Prop)
    (hstep : ∀ (listed : Array Bool) (a : Act) (w : World) (i : Nat), I listed a w → i ∈ Region.ready md ops listed → wpOp P ops Q i (fun a' w' => I (listed.setIfInBounds i true) a' w') a w)
    (hend : ∀ (listed : Array Bool) (a : Act) (w : World), I listed a w → Region.ready md ops listed = [] → Q .normal a w) :
    ∀ (fuel : Nat) (listed : Array Bool) (a : Act) (w : World), I listed a w → (toCome ops listed).length ≤ fuel → wpAny P md ops Q fuel listed a w := by
  intro fuel
  induction fuel with
  | zero =>
    intro listed a w hI hc
    have hr : Region.ready md ops listed = [] := by
      rw [List.eq_nil_iff_forall_not_mem]
      intro j hj
      obtain ⟨h1, o, h2, _⟩ := mem_ready.1 hj
      have hm : j ∈ toCome ops listed := by
        unfold toCome
        rw [List.mem_filter, List.mem_range]
        exact ⟨(Array.getElem?_eq_some_iff.1 h2).1, by simp [h1]⟩
      rw [List.eq_nil_of_length_eq_zero (Nat.le_zero.1 hc)] at hm
      cases hm
    exact ⟨hr, hend listed a w hI hr⟩
  | succ fuel ih =>
    intro listed a w hI hc
    refine ⟨hend listed a w hI, fun i hi => ?_⟩
    obtain ⟨h1, o, h2, _⟩ := mem_ready.1 hi
    have hlt := toCome_set (ops := ops) (Array.getElem?_eq_some_iff.1 h2).1 h1
    exact wpOp_mono (fun a' w' h => ih _ a' w' h (by omega)) (hstep listed a w i hI hi)

/-- What is known while the region runs: S of the world; each operation that was, yielded what it is meant to; other slots are as they were. -/
structure RunsR (S : World → Prop) (V : Nat → Value → World → Prop) (dst : Nat → Nat) (n : Nat) (a0 : Act) (listed : Array Bool) (b : Act) (w : World) : Prop where
  defers : b.defers = a0.defers
  size : b.tmps.size = a0.tmps.size
  here : S w
  rest : ∀ t, (∀ i, i < n → dst i ≠ t) → b.tmps.getD t undef = a0.tmps.getD t undef
  was : ∀ i, i < n → listed.getD i false = true → V i (b.tmps.getD (dst i) undef) w
  late : ∀ i, i < n → listed.getD i false = false → b.tmps.getD (dst i) undef = a0.tmps.getD (dst i) undef

/-- Whatever binds an operation stands ahead of it. -/
def backB (md : Region.Mode) (ops : Array Oper) : Bool := (List.range ops.size).all fun i => ((ops[i]?).map fun o => o.after.all fun e => !Region.binds md e || decide (e.on < i)).getD false
theorem back_spec (h : backB md ops = true) {i : Nat} {o : Oper} (ho : ops[i]? = some o) : ∀ e ∈ o.after, Region.binds md e = true → e.on < i := by
  intro e he hb
  unfold backB at h
  rw [List.all_eq_true] at h
  have h1 := h i (List.mem_range.2 (Array.getElem?_eq_some_iff.1 ho).1)
  rw [ho] at h1
  simp only [Option.map_some, Option.getD_some] at h1
  rw [Array.all_eq_true'] at h1
  have h2 := h1 e he
  simpa [hb] using h2
theorem all_listed (hb : backB md ops = true) {listed : Array Bool} (hr : Region.ready md ops listed = []) : ∀ i, i < ops.size → i < listed.size → listed.getD i false = true := by
  intro i
  induction i using Nat.strongRecOn with
  | _ i ih =>
    intro hi hl
    cases hx : listed.getD i false with
    | true => rfl
    | false =>
      exfalso
      have ho : ops[i]? = some ops[i] := Array.getElem?_eq_getElem hi
      have hm : i ∈ Region.ready md ops listed := by
        refine mem_ready.2 ⟨?_, ops[i], ho, fun e he hbe => ?_⟩
        · rw [Array.getD_eq_getD_getElem?, Array.getElem?_eq_getElem hl] at hx ⊢
          simpa using hx
        · have hlt := back_spec hb ho e he hbe
          exact ih e.on hlt (by omega) (by omega)
      rw [hr] at hm
      cases hm

theorem wp_region_runs {id : Nat} {a : Act} {w : World} (hm : P.follows .mixedOrders = true) (S : World → Prop) (V : Nat → Value → World → Prop) (dst : Nat → Nat) (n : Nat)
    (hn : ops.size = n) (hback : backB .any ops = true) (hdst : ∀ i, i < n → dst i < a.tmps.size) (hinj : ∀ i j, i < n → j < n → dst i = dst j → i = j)
    (hstab : ∀ i u W W', Old W W' → V i u W → V i u W') (hS : S w.drew)
    (hop : ∀ (i : Nat) (o : Oper), ops[i]? = some o → o.dst = some (dst i) ∧ o.guard = none ∧
      ∀ (b : Act) (W : World) (K : Act → World → Prop), S W → b.defers = a.defers → (∀ t, (∀ j, j < n → dst j ≠ t) → b.tmps.getD t undef = a.tmps.getD t undef) →
        (∀ e ∈ o.after, Region.binds .any e = true → V e.on (b.tmps.getD (dst e.on) undef) W) →
        (∀ (j : Nat) (oj : Oper), ops[j]? = some oj → (∃ e ∈ oj.after, Region.binds .any e = true ∧ e.on = i) → b.tmps.getD (dst j) undef = a.tmps.getD (dst j) undef) → (∀ v W', V i v W' → Old W W' → S W' → K (b.put (some (dst i)) v) W') → Oper.wp P o b W K Q)
    (hend : ∀ (b : Act) (W : World), S W → b.defers = a.defers → b.tmps.size = a.tmps.size → (∀ t, (∀ j, j < n → dst j ≠ t) → b.tmps.getD t undef = a.tmps.getD t undef) → (∀ i, i < n → V i (b.tmps.getD (dst i) undef) W) → Q .normal b W) :
    (Code.region id ops true).wp P Q a w := by
  refine wp_region_any hm ?_
  refine wpAny_inv (fun listed b W => RunsR S V dst n a listed b W ∧ listed.size = n ∧ ∀ (j : Nat) (oj : Oper), ops[j]? = some oj → listed.getD j false = true → ∀ e ∈ oj.after, Region.binds .any e = true → listed.getD e.on false = true) ?_ ?_ _ _ _ _ ⟨⟨rfl, rfl, hS, fun _ _ => rfl, fun i _ h => (by rw [Array.getD_eq_getD_getElem?, Array.getElem?_replicate] at h; split at h <;> cases h), fun _ _ _ => rfl⟩, by simp [hn], fun j _ _ h => by rw [Array.getD_eq_getD_getElem?, Array.getElem?_replicate] at h; split at h <;> cases h⟩ ?_
  · rintro listed b W i ⟨hI, hls, hcl⟩ hi
    obtain ⟨h1, o, h2, h3⟩ := mem_ready.1 hi
    obtain ⟨hd, hg, hw⟩ := hop i o h2
    have hin : i < n := by rw [← hn]; exact (Array.getElem?_eq_some_iff.1 h2).1
    refine wpOp_step h2 (fun K hK => ?_)
    have hwt : Region.wanted o (yielded ops b.tmps) = true := by simp [Region.wanted, hg]
    rw [if_pos hwt]
    have hiF : listed.getD i false = false := by
      have hlt : i < listed.size := by omega
      rw [Array.getD_eq_getD_getElem?, Array.getElem?_eq_getElem hlt] at h1 ⊢
      simpa using h1
    refine hw b W K hI.here hI.defers hI.rest (fun e he hb => ?_) (fun j oj hj he => ?_) (fun v W' hv hO hS' => hK _ _ ?_)
    · have hlt := back_spec hback h2 e he hb
      exact hI.was e.on (by omega) (h3 e he hb)
    · obtain ⟨e, he, hb, hon⟩ := he
      have hjn : j < n := by rw [← hn]; exact (Array.getElem?_eq_some_iff.1 hj).1
      cases hx : listed.getD j false with
      | false => exact hI.late j hjn hx
      | true =>
        have := hcl j oj hj hx e he hb
        rw [hon, hiF] at this
        cases this
    · refine ⟨⟨hI.defers, by simpa [Act.put] using hI.size, hS', fun t ht => ?_, fun j hj hl => ?_, fun j hj hl => ?_⟩, by simpa using hls, fun j oj hj hl e he hb => ?_⟩
      · have hne : dst i ≠ t := ht i hin
        rw [← hI.rest t ht]
        simp only [Act.put, Array.getD_eq_getD_getElem?]
        rw [Array.getElem?_setIfInBounds_ne hne]
      · by_cases hij : i = j
        · subst hij
          have hsz : dst i < b.tmps.size := by rw [hI.size]; exact hdst i hin
          simp only [Act.put, Array.getD_eq_getD_getElem?]
          rw [Array.getElem?_setIfInBounds_self_of_lt hsz]
          exact hv
        · rw [getD_set_ne false hij] at hl
          have hne : dst i ≠ dst j := fun e => hij (hinj i j hin hj e)
          have := hstab j _ W W' hO (hI.was j hj hl)
          simp only [Act.put, Array.getD_eq_getD_getElem?] at this ⊢
          rw [Array.getElem?_setIfInBounds_ne hne]
          exact this
      · have hij : i ≠ j := by
          rintro rfl
          rw [Array.getD_eq_getD_getElem?, Array.getElem?_setIfInBounds_self_of_lt (by omega)] at hl
          cases hl
        rw [getD_set_ne false hij] at hl
        have hne : dst i ≠ dst j := fun e => hij (hinj i j hin hj e)
        rw [← hI.late j hj hl]
        simp only [Act.put, Array.getD_eq_getD_getElem?]
        rw [Array.getElem?_setIfInBounds_ne hne]
      · by_cases hij : i = j
        · subst hij
          rw [h2] at hj
          injection hj with hj
          subst hj
          have hlt := back_spec hback h2 e he hb
          rw [getD_set_ne false (by omega)]
          exact h3 e he hb
        · rw [getD_set_ne false hij] at hl
          have h5 := hcl j oj hj hl e he hb
          by_cases hie : i = e.on
          · rw [← hie, Array.getD_eq_getD_getElem?, Array.getElem?_setIfInBounds_self_of_lt (by omega)]; rfl
          · rw [getD_set_ne false hie]; exact h5
  · rintro listed b W ⟨hI, hls, -⟩ hr
    exact hend b W hI.here hI.defers hI.size hI.rest (fun i hi => hI.was i hi (all_listed hback hr i (by omega) (by omega)))
  · unfold toCome
    exact Nat.le_trans (List.length_filter_le _ _) (by simp)
end
/-- An act with these slots written. -/
def putL (a : Act) : List (Nat × Value) → Act
  | [] => a
  | (d, v) :: l => putL (a.put (some d) v) l
theorem putL_get (f : Nat → Value) : ∀ (ds : List Nat) (a : Act), (∀ d ∈ ds, d < a.tmps.size) → (putL a (ds.map fun d => (d, f d))).defers = a.defers ∧ (putL a (ds.map fun d => (d, f d))).tmps.size = a.tmps.size ∧ ∀ t, (putL a (ds.map fun d => (d, f d))).tmps.getD t undef = if t ∈ ds then f t else a.tmps.getD t undef
  | [], a, _ => ⟨rfl, rfl, fun t => by simp [putL]⟩
  | d :: ds, a, h => by
    have hd : d < a.tmps.size := h d List.mem_cons_self
    obtain ⟨h1, h2, h3⟩ := putL_get f ds (a.put (some d) (f d)) (fun x hx => by have := h x (List.mem_cons_of_mem _ hx); simpa [Act.put] using this)
    refine ⟨by simpa [Act.put, putL] using h1, by simpa [Act.put, putL] using h2, fun t => ?_⟩
    show (putL (a.put (some d) (f d)) (ds.map fun d => (d, f d))).tmps.getD t undef = _
    rw [h3 t]
    by_cases ht : t ∈ ds
    · rw [if_pos ht, if_pos (List.mem_cons_of_mem _ ht)]
    · rw [if_neg ht]
      by_cases he : t = d
      · subst he
        rw [if_pos List.mem_cons_self]
        simp only [Act.put, Array.getD_eq_getD_getElem?]
        rw [Array.getElem?_setIfInBounds_self_of_lt hd]
        rfl
      · rw [if_neg (by simp [he, ht])]
        simp only [Act.put, Array.getD_eq_getD_getElem?]
        rw [Array.getElem?_setIfInBounds_ne (fun e => he e.symm)]
theorem wp_region_list {P : Program} {ops : Array Oper} {Q : Exit → Act → World → Prop} {id : Nat} {a : Act} {w : World} (hm : P.follows .mixedOrders = true) (S : World → Prop) (V : Nat → Value → World → Prop) (ds : List Nat)
    (hn : ops.size = ds.length) (hback : backB .any ops = true) (hlt : ∀ d ∈ ds, d < a.tmps.size) (hnd : ds.Nodup)
    (hstab : ∀ i u W W', Old W W' → V i u W → V i u W') (hS : S w.drew)
    (hop : ∀ (i : Nat) (o : Oper), ops[i]? = some o → o.dst = some (ds.getD i 0) ∧ o.guard = none ∧
      ∀ (b : Act) (W : World) (K : Act → World → Prop), S W → b.defers = a.defers → (∀ t, (∀ j, j < ds.length → ds.getD j 0 ≠ t) → b.tmps.getD t undef = a.tmps.getD t undef) →
        (∀ e ∈ o.after, Region.binds .any e = true → V e.on (b.tmps.getD (ds.getD e.on 0) undef) W) →
        (∀ (j : Nat) (oj : Oper), ops[j]? = some oj → (∃ e ∈ oj.after, Region.binds .any e = true ∧ e.on = i) → b.tmps.getD (ds.getD j 0) undef = a.tmps.getD (ds.getD j 0) undef) → (∀ v W', V i v W' → Old W W' → S W' → K (b.put (some (ds.getD i 0)) v) W') → Oper.wp P o b W K Q)
    (hend : ∀ (f : Nat → Value) (W : World), S W → (∀ i, i < ds.length → V i (f (ds.getD i 0)) W) → Q .normal (putL a (ds.map fun d => (d, f d))) W) :
    (Code.region id ops true).wp P Q a w := by
  have hmem : ∀ i, i < ds.length → ds.getD i 0 ∈ ds := fun i hi => by
    rw [List.getD_eq_getElem?_getD, List.getElem?_eq_getElem hi]
    exact List.getElem_mem hi
  refine wp_region_runs hm S V (fun i => ds.getD i 0) ds.length hn hback (fun i hi => hlt _ (hmem i hi)) (fun i j hi hj he => ?_) hstab hS hop ?_
  · simp only [List.getD_eq_getElem?_getD, List.getElem?_eq_getElem hi, List.getElem?_eq_getElem hj, Option.getD_some] at he
    rcases Nat.lt_trichotomy i j with h1 | h1 | h1
    · exact absurd he (List.pairwise_iff_getElem.1 hnd i j hi hj h1)
    · exact h1
    · exact absurd he.symm (List.pairwise_iff_getElem.1 hnd j i hj hi h1)
  · intro b W h1 h2 h3 h4 h5
    have := hend (fun t => b.tmps.getD t undef) W h1 h5
    obtain ⟨g1, g2, g3⟩ := putL_get (fun t => b.tmps.getD t undef) ds a hlt
    generalize putL a (ds.map fun d => (d, b.tmps.getD d undef)) = c at *
    have e : c = b := by
      obtain ⟨ct, cd⟩ := c
      obtain ⟨bt, bd⟩ := b
      simp only at g1 g2 g3 h2 h3 h4
      have e1 : ct = bt := by
        apply Array.ext
        · omega
        · intro i hi hj
          have := g3 i
          rw [Array.getD_eq_getD_getElem?, Array.getElem?_eq_getElem hi] at this
          simp only [Option.getD_some] at this
          rw [this]
          have hb : bt.getD i undef = bt[i] := by rw [Array.getD_eq_getD_getElem?, Array.getElem?_eq_getElem hj]; rfl
          split
          · first | exact hb | rfl
          · rename_i hni
            rw [← h4 i (fun j hj e => hni (by rw [← e]; exact hmem j hj)), hb]
      subst e1
      rw [g1, h2]
    rw [← e]
    exact this
end Go.Proofs.Yteglddggjkibcaa
