/-
  The iterator over parts of a slice of items: what it tells. Conditions: lengths as written.
-/
import Derived.Test.YtbccpplpfcfboaaRIts
import Derived.Test.YtbccpplpfcfboaaRRes
namespace Go.Proofs.Ytbccpplpfcfboaa
open Go.RowKit Go.Shelf

attribute [local go_sem] Oper.semAt_some

/-- How many parts there are. -/
def many (N m : Nat) : Nat := (N + m - 1) / m
theorem many_lt {N m k : Nat} (hm : 1 ≤ m) : k < many N m ↔ k * m < N := by
  unfold many
  rw [Nat.lt_div_iff_mul_lt (by omega)]
  constructor <;> intro h <;> omega
theorem many_nil {m : Nat} (hm : 1 ≤ m) : many 0 m = 0 := by
  unfold many
  exact Nat.div_eq_of_lt (by omega)
/-- The places where the parts begin. -/
def startsOf (N m : Nat) : List Nat := (List.range (many N m)).map (· * m)
theorem startsOf_len (N m : Nat) : (startsOf N m).length = many N m := by simp [startsOf]
theorem startsOf_at {N m k s : Nat} (hm : 1 ≤ m) (h : (startsOf N m)[k]? = some s) : s = k * m ∧ k * m < N ∧ k < many N m := by
  unfold startsOf at h
  rw [List.getElem?_map] at h
  rcases Nat.lt_or_ge k (many N m) with hk | hk
  · rw [List.getElem?_range hk] at h
    simp at h
    exact ⟨h.symm, (many_lt hm).1 hk, hk⟩
  · rw [List.getElem?_eq_none (by simpa using hk)] at h
    cases h
theorem startsOf_get {N m k : Nat} (hm : 1 ≤ m) (h : k * m < N) : (startsOf N m)[k]? = some (k * m) := by
  unfold startsOf
  rw [List.getElem?_map, List.getElem?_range ((many_lt hm).2 h)]
  rfl
/-- A part, as a slice. -/
def encP (g0 N cap m : Nat) (s : Nat) : Array Value := #[.slice (some ⟨g0, s * 7, none⟩) (min m (N - s)) (cap - s)]
def itsI (_ : Nat) (t : TypeId) : Bool := t == 3

set_option maxRecDepth 100000 in
set_option maxHeartbeats 4000000 in
theorem parts1_in (n : Nat) (hn : 1 ≤ n) (l bl bs g g0 N cap m : Nat) (A : Option Addr) (hA : 0 < N → A = some ⟨g0, 0, none⟩) (hN : N ≤ 100000) (hc : N ≤ cap) (hm : 1 ≤ m) (hm2 : m ≤ 9223372036854775807) (J Jx : Nat → World → Prop)
    (_ : ∀ k A Z, Ste itsI g A Z → J k A → J k Z)
    (hY : ∀ k x W1, (startsOf N m)[k]? = some x → J k W1 → YieldAt Fence.wide (n - 1) Try.prog l (encP g0 N cap m x) W1 fun e Z => (e = .returned (.bool true) ∧ J (k + 1) Z ∧ Kep itsI W1 Z) ∨ (e = .returned (.bool false) ∧ Jx (k + 1) Z))
    (W : World) (hbl : W.cell? ⟨bl, 0, none⟩ = some (.slice A N cap)) (hbs : Bk W bs 3 #[.int .i64 (m : Int)]) (h0 : J 0 W) :
    CallsIn Fence.wide n Try.prog 46 #[.func (.yield l) #[] #[], .pointer (some ⟨bl, 0, none⟩), .pointer (some ⟨bs, 0, none⟩)] W fun e Z => (∃ v, e = .returned v) ∧ (J (startsOf N m).length Z ∨ ∃ k, k ≤ (startsOf N m).length ∧ Jx k Z) := by
  refine callsIn_of_wp Try.func46 rfl trivial ?_ rfl
  simp only [Try.ntmps46, List.size_toArray, List.length_cons, List.length_nil, Nat.reduceAdd, Nat.reduceSub, Array.replicate_succ, Array.replicate_zero, List.push_toArray, List.append_toArray, List.nil_append, List.cons_append]
  gi_wp2_with fail
  gi_loopw [4] (fun v wr => ∃ (k s : Nat) (A' : Option Addr) (c' : Nat), v = .slice A' (N - s) c' ∧ s ≤ N ∧ k ≤ many N m ∧ (s < N → s = k * m ∧ A' = some ⟨g0, s * 7, none⟩ ∧ c' = cap - s) ∧ (s = N → k = many N m) ∧ Bk wr bs 3 #[.int .i64 (m : Int)] ∧ J k wr)
    (fun v _ => match v with | .slice _ q _ => q | _ => 0)
  case atStart =>
    refine ⟨0, 0, A, cap, rfl, Nat.zero_le _, Nat.zero_le _, fun h => ⟨by simp, by rw [hA h], by simp⟩, fun h => ?_, hbs, h0⟩
    rw [← h, many_nil hm]
  case round =>
    obtain ⟨k, s, A', c', rfl, hs, hk, hlt, hend, hb, hj⟩ := hrel
    by_cases h1 : s < N
    · obtain ⟨hs2, rfl, rfl⟩ := hlt h1
      have HST := Lib.hid (show (startsOf N m)[k]? = some s by rw [hs2]; exact startsOf_get hm (by omega))
      have HK := Lib.hid (show k < many N m from (many_lt hm).2 (by omega))
      have HE := Lib.hid (show ∀ q, min m (N - s) = q → k + 1 ≤ many N m ∧ (s + q < N → s + q = (k + 1) * m) ∧ (s + q = N → k + 1 = many N m) from fun q hq => by
        have h2 : k < many N m := (many_lt hm).2 (by omega)
        refine ⟨h2, fun h => ?_, fun h => ?_⟩
        · rw [Nat.add_mul, ← hs2]; omega
        · have h3 : ¬ k + 1 < many N m := fun h4 => by
            have h5 := (many_lt hm).1 h4
            rw [Nat.add_mul, ← hs2] at h5
            omega
          omega)
      clear hs2 hend
      have cb := hb.cell 0
      simp only [List.getElem?_toArray, List.getElem?_cons_zero] at cb
      have i1 : (0 : Int) < ((N - s : Nat) : Int) := by omega
      gi_wp2_with fail
      · have hq : min m (N - s) = N - s := by omega
        obtain ⟨fn, tmps, assign, body, hy, hR⟩ := hY k s _ HST.out hj
        dsimp only [encP] at hy
        rw [hq] at hy
        rw [hy]
        gi_wp2_with fail
        refine hR.mono ?_
        rintro e W3 (⟨rfl, hJ3, hk3⟩ | ⟨rfl, hJx3⟩)
        · have hb3 : Bk W3 bs 3 #[.int .i64 (m : Int)] := hk3.2 _ _ hb rfl
          have HE := HE.out (N - s) hq
          clear hb hk3 hy hR
          gi_wp2
          all_goals
            refine ⟨⟨k + 1, s + (N - s), _, _, by congr 1; omega, by omega, HE.1, fun h => ?_, HE.2.2, hb3, hJ3⟩, ?_⟩
            · refine ⟨HE.2.1 h, ?_, by omega⟩
              first
                | (exfalso; omega)
                | (rw [if_neg (by omega)]; congr 2; omega)
                | (congr 2; omega)
            · dsimp only; omega
        · gi_wp2
          first | refine bodyPost_ret (results_none rfl _ _ _) rfl ?_ | refine bodyPost_end (results_none rfl _ _ _) rfl ?_
          exact ⟨⟨_, rfl⟩, .inr ⟨k + 1, by rw [startsOf_len]; have := HK.out; omega, hJx3⟩⟩
      · have hq : min m (N - s) = m := by omega
        obtain ⟨fn, tmps, assign, body, hy, hR⟩ := hY k s _ HST.out hj
        dsimp only [encP] at hy
        rw [hq] at hy
        rw [hy]
        gi_wp2_with fail
        refine hR.mono ?_
        rintro e W3 (⟨rfl, hJ3, hk3⟩ | ⟨rfl, hJx3⟩)
        · have hb3 : Bk W3 bs 3 #[.int .i64 (m : Int)] := hk3.2 _ _ hb rfl
          have HE := HE.out m hq
          clear hb hk3 hy hR
          gi_wp2
          all_goals
            refine ⟨⟨k + 1, s + m, _, _, by congr 1; omega, by omega, HE.1, fun h => ?_, HE.2.2, hb3, hJ3⟩, ?_⟩
            · refine ⟨HE.2.1 h, ?_, by omega⟩
              first
                | (exfalso; omega)
                | (rw [if_neg (by omega)]; congr 2; omega)
                | (congr 2; omega)
            · dsimp only; omega
        · gi_wp2
          first | refine bodyPost_ret (results_none rfl _ _ _) rfl ?_ | refine bodyPost_end (results_none rfl _ _ _) rfl ?_
          exact ⟨⟨_, rfl⟩, .inr ⟨k + 1, by rw [startsOf_len]; have := HK.out; omega, hJx3⟩⟩
    · have hsN : s = N := by omega
      have HF := Lib.hid (hend hsN)
      have i1 : ((N - s : Nat) : Int) = 0 := by omega
      have i2 : N - s = 0 := by omega
      clear hlt hend hsN
      gi_wp2
      refine bodyPost_end (results_none rfl _ _ _) rfl ?_
      exact ⟨⟨_, rfl⟩, .inl (by rw [startsOf_len, ← HF.out]; exact hj)⟩
end Go.Proofs.Ytbccpplpfcfboaa
