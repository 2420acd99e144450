/-
  A region that draws its order, by an invariant: if each operation, whenever it may come up, yields what it is meant to yield, the region ends with all of it, whatever the order. Nothing of a program here.
-/
import Derived.Test.YthanenblcplbhaaMDcd
namespace Go.Proofs.Ythanenblcplbhaa
open Go.RowKit

section
variable {P : Program} {md : Region.Mode} {ops : Array Oper} {Q : Exit → Act → World → Prop}

/-- How many operations are still to come. -/
def toCome (ops : Array Oper) (listed : Array Bool) : List Nat := (List.range ops.size).filter fun i => !listed.getD i true
theorem toCome_set {listed : Array Bool} {i : Nat} (hi : i < ops.size) (h : listed.getD i true = false) : (toCome ops (listed.setIfInBounds i true)).length < (toCome ops listed).length := by
  have hlt : i < listed.size := by
    rcases Nat.lt_or_ge i listed.size with h1 | h1
    · exact h1
    · rw [Array.getD_eq_getD_getElem?, Array.getElem?_eq_none h1] at h; cases h
  have e : toCome ops (listed.setIfInBounds i true) = (toCome ops listed).filter fun j => !(listed.setIfInBounds i true).getD j true := by
    unfold toCome
    rw [List.filter_filter]
    congr 1
    funext j
    by_cases hj : i = j
    · subst hj
      simp [Array.getD_eq_getD_getElem?, hlt]
    · rw [getD_set_ne true hj]; simp
  rw [e]
  refine List.length_filter_lt_length_iff_exists.2 ⟨i, ?_, ?_⟩
  · unfold toCome
    rw [List.mem_filter, List.mem_range]
    exact ⟨hi, by simp [h]⟩
  · simp [Array.getD_eq_getD_getElem?, hlt]

theorem wpAny_inv (I : Array Bool → Act → World → Prop)
    (hstep : ∀ (listed : Array Bool) (a : Act) (w : World) (i : Nat), I listed a w → i ∈ Region.ready md ops listed → wpOp P ops Q i (fun a' w' => I (listed.setIfInBounds i true) a' w') a w)
    (hend : ∀ (listed : Array Bool) (a : Act) (w : World), I listed a w → Region.ready md ops listed = [] → Q .normal a w) :
    ∀ (fuel : Nat) (listed : Array Bool) (a : Act) (w : World), I listed a w → (toCome ops listed).length ≤ fuel → wpAny P md ops Q fuel listed a w := by
  intro fuel
  induction fuel with
  | zero =>
    intro listed a w hI hc
    have hr : Region.ready md ops listed = [] := by
      rw [List.eq_nil_iff_forall_not_mem]
      intro j hj
      obtain ⟨h1, o, h2, _⟩ := mem_ready.1 hj
      have hm : j ∈ toCome ops listed := by
        unfold toCome
        rw [List.mem_filter, List.mem_range]
        exact ⟨(Array.getElem?_eq_some_iff.1 h2).1, by simp [h1]⟩
      rw [List.eq_nil_of_length_eq_zero (Nat.le_zero.1 hc)] at hm
      cases hm
    exact ⟨hr, hend listed a w hI hr⟩
  | succ fuel ih =>
    intro listed a w hI hc
    refine ⟨hend listed a w hI, fun i hi => ?_⟩
    obtain ⟨h1, o, h2, _⟩ := mem_ready.1 hi
    have hlt := toCome_set (ops := ops) (Array.getElem?_eq_some_iff.1 h2).1 h1
    exact wpOp_mono (fun a' w' h => ih _ a' w' h (by omega)) (hstep listed a w i hI hi)

/-- What is known while the region runs: S of the world; each operation that was, yielded what it is meant to; other slots are as they were. -/
structure Runs (S : World → Prop) (V : Nat → Value → World → Prop) (dst : Nat → Nat) (n : Nat) (a0 : Act) (listed : Array Bool) (b : Act) (w : World) : Prop where
  defers : b.defers = a0.defers
  size : b.tmps.size = a0.tmps.size
  here : S w
  rest : ∀ t, (∀ i, i < n → dst i ≠ t) → b.tmps.getD t undef = a0.tmps.getD t undef
  was : ∀ i, i < n → listed.getD i false = true → V i (b.tmps.getD (dst i) undef) w

/-- Whatever binds an operation stands ahead of it. -/
def backB (md : Region.Mode) (ops : Array Oper) : Bool := (List.range ops.size).all fun i => ((ops[i]?).map fun o => o.after.all fun e => !Region.binds md e || decide (e.on < i)).getD false
theorem back_spec (h : backB md ops = true) {i : Nat} {o : Oper} (ho : ops[i]? = some o) : ∀ e ∈ o.after, Region.binds md e = true → e.on < i := by
  intro e he hb
  unfold backB at h
  rw [List.all_eq_true] at h
  have h1 := h i (List.mem_range.2 (Array.getElem?_eq_some_iff.1 ho).1)
  rw [ho] at h1
  simp only [Option.map_some, Option.getD_some] at h1
  rw [Array.all_eq_true'] at h1
  have h2 := h1 e he
  simpa [hb] using h2
theorem all_listed (hb : backB md ops = true) {listed : Array Bool} (hr : Region.ready md ops listed = []) : ∀ i, i < ops.size → i < listed.size → listed.getD i false = true := by
  intro i
  induction i using Nat.strongRecOn with
  | _ i ih =>
    intro hi hl
    cases hx : listed.getD i false with
    | true => rfl
    | false =>
      exfalso
      have ho : ops[i]? = some ops[i] := Array.getElem?_eq_getElem hi
      have hm : i ∈ Region.ready md ops listed := by
        refine mem_ready.2 ⟨?_, ops[i], ho, fun e he hbe => ?_⟩
        · rw [Array.getD_eq_getD_getElem?, Array.getElem?_eq_getElem hl] at hx ⊢
          simpa using hx
        · have hlt := back_spec hb ho e he hbe
          exact ih e.on hlt (by omega) (by omega)
      rw [hr] at hm
      cases hm

theorem wp_region_runs {id : Nat} {a : Act} {w : World} (hm : P.follows .mixedOrders = true) (S : World → Prop) (V : Nat → Value → World → Prop) (dst : Nat → Nat) (n : Nat)
    (hn : ops.size = n) (hback : backB .any ops = true) (hdst : ∀ i, i < n → dst i < a.tmps.size) (hinj : ∀ i j, i < n → j < n → dst i = dst j → i = j)
    (hstab : ∀ i u W W', Old W W' → V i u W → V i u W') (hS : S w.drew)
    (hop : ∀ (i : Nat) (o : Oper), ops[i]? = some o → o.dst = some (dst i) ∧ o.guard = none ∧
      ∀ (b : Act) (W : World) (K : Act → World → Prop), S W → b.defers = a.defers → (∀ t, (∀ j, j < n → dst j ≠ t) → b.tmps.getD t undef = a.tmps.getD t undef) →
        (∀ e ∈ o.after, Region.binds .any e = true → V e.on (b.tmps.getD (dst e.on) undef) W) → (∀ v W', V i v W' → Old W W' → S W' → K (b.put (some (dst i)) v) W') → Oper.wp P o b W K Q)
    (hend : ∀ (b : Act) (W : World), S W → b.defers = a.defers → b.tmps.size = a.tmps.size → (∀ t, (∀ j, j < n → dst j ≠ t) → b.tmps.getD t undef = a.tmps.getD t undef) → (∀ i, i < n → V i (b.tmps.getD (dst i) undef) W) → Q .normal b W) :
    (Code.region id ops true).wp P Q a w := by
  refine wp_region_any hm ?_
  refine wpAny_inv (fun listed b W => Runs S V dst n a listed b W ∧ listed.size = n) ?_ ?_ _ _ _ _ ⟨⟨rfl, rfl, hS, fun _ _ => rfl, fun i _ h => by rw [Array.getD_eq_getD_getElem?, Array.getElem?_replicate] at h; split at h <;> cases h⟩, by simp [hn]⟩ ?_
  · rintro listed b W i ⟨hI, hls⟩ hi
    obtain ⟨h1, o, h2, h3⟩ := mem_ready.1 hi
    obtain ⟨hd, hg, hw⟩ := hop i o h2
    have hin : i < n := by rw [← hn]; exact (Array.getElem?_eq_some_iff.1 h2).1
    refine wpOp_step h2 (fun K hK => ?_)
    have hwt : Region.wanted o (yielded ops b.tmps) = true := by simp [Region.wanted, hg]
    rw [if_pos hwt]
    refine hw b W K hI.here hI.defers hI.rest (fun e he hb => ?_) (fun v W' hv hO hS' => hK _ _ ?_)
    · have hlt := back_spec hback h2 e he hb
      exact hI.was e.on (by omega) (h3 e he hb)
    · refine ⟨⟨hI.defers, by simpa [Act.put] using hI.size, hS', fun t ht => ?_, fun j hj hl => ?_⟩, by simpa using hls⟩
      · have hne : dst i ≠ t := ht i hin
        rw [← hI.rest t ht]
        simp only [Act.put, Array.getD_eq_getD_getElem?]
        rw [Array.getElem?_setIfInBounds_ne hne]
      · by_cases hij : i = j
        · subst hij
          have hsz : dst i < b.tmps.size := by rw [hI.size]; exact hdst i hin
          simp only [Act.put, Array.getD_eq_getD_getElem?]
          rw [Array.getElem?_setIfInBounds_self_of_lt hsz]
          exact hv
        · rw [getD_set_ne false hij] at hl
          have hne : dst i ≠ dst j := fun e => hij (hinj i j hin hj e)
          have := hstab j _ W W' hO (hI.was j hj hl)
          simp only [Act.put, Array.getD_eq_getD_getElem?] at this ⊢
          rw [Array.getElem?_setIfInBounds_ne hne]
          exact this
  · rintro listed b W ⟨hI, hls⟩ hr
    exact hend b W hI.here hI.defers hI.size hI.rest (fun i hi => hI.was i hi (all_listed hback hr i (by omega) (by omega)))
  · unfold toCome
    exact Nat.le_trans (List.length_filter_le _ _) (by simp)
end
end Go.Proofs.Ythanenblcplbhaa
