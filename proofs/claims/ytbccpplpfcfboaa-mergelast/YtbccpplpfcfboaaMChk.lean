/-
  The iterator over groups of a slice of slices: what it tells. Conditions: lengths as written.
-/
import Derived.Test.YtbccpplpfcfboaaRMak
import Derived.RegionIn
import Derived.Stop.RegionWithIn
namespace Go.Proofs.Ytbccpplpfcfboaa
open Go.RowKit Go.Shelf

attribute [local go_sem] Oper.semAt_some

/-- A group, as a slice. -/
def encC (g0 o0 N m : Nat) (s : Nat) : Array Value := #[.slice (some ⟨g0, o0 + s, none⟩) (min m (N - s)) (min m (N - s))]
/-- The iterator's own: its numbers, and the box that holds the slice. -/
def chkT (bl : Nat) (i : Nat) (t : TypeId) : Bool := t == 3 || i == bl

set_option maxRecDepth 100000 in
set_option maxHeartbeats 8000000 in
theorem chunk1_in (n : Nat) (hn : 1 ≤ n) (l bl bs g g0 o0 N cap m : Nat) (A : Option Addr) (hA : 0 < N → A = some ⟨g0, o0, none⟩) (hN : N ≤ 100000) (hc : N ≤ cap) (hm : 1 ≤ m) (hm2 : m ≤ 9223372036854775807) (J Jx : Nat → World → Prop)
    (hJS : ∀ k A Z, Ste (chkT bl) g A Z → J k A → J k Z)
    (hY : ∀ k x W1, (startsOf N m)[k]? = some x → J k W1 → YieldAt Fence.wide (n - 1) Try.prog l (encC g0 o0 N m x) W1 fun e Z => (e = .returned (.bool true) ∧ J (k + 1) Z ∧ Kep (chkT bl) W1 Z) ∨ (e = .returned (.bool false) ∧ Jx (k + 1) Z))
    (W : World) (hbl : Bk W bl 30 #[.slice A N cap]) (hbs : Bk W bs 3 #[.int .i64 (m : Int)]) (h0 : J 0 W) :
    CallsIn Fence.wide n Try.prog 40 #[.func (.yield l) #[] #[], .pointer (some ⟨bl, 0, none⟩), .pointer (some ⟨bs, 0, none⟩)] W fun e Z => (∃ v, e = .returned v) ∧ (J (startsOf N m).length Z ∨ ∃ k, k ≤ (startsOf N m).length ∧ Jx k Z) := by
  refine callsIn_of_wp Try.func40 rfl trivial ?_ rfl
  simp only [Try.ntmps40, List.size_toArray, List.length_cons, List.length_nil, Nat.reduceAdd, Nat.reduceSub, Array.replicate_succ, Array.replicate_zero, List.push_toArray, List.append_toArray, List.nil_append, List.cons_append]
  gi_wp2_with fail
  gi_loopw [4] (fun v wr => ∃ (k i : Nat), v = .int .i64 (i : Int) ∧ k ≤ many N m ∧ (i < N → i = k * m) ∧ (N ≤ i → k = many N m) ∧ Bk wr bl 30 #[.slice A N cap] ∧ Bk wr bs 3 #[.int .i64 (m : Int)] ∧ J k wr)
    (fun v _ => N - (intOf v).toNat)
  case atStart =>
    refine ⟨0, 0, rfl, Nat.zero_le _, fun h => by simp, fun h => ?_, hbl, hbs, h0⟩
    rw [show N = 0 by omega, many_nil hm]
  case round =>
    obtain ⟨k, i, rfl, hk, hlt, hend, hb1, hb2, hj⟩ := hrel
    have cl := hb1.cell 0
    have cs := hb2.cell 0
    simp only [List.getElem?_toArray, List.getElem?_cons_zero] at cl cs
    by_cases h1 : i < N
    · have hs2 := hlt h1
      have hA' := hA (by omega)
      subst hA'
      have HST := Lib.hid (show (startsOf N m)[k]? = some i by rw [hs2]; exact startsOf_get hm (by omega))
      have HK := Lib.hid (show k < many N m from (many_lt hm).2 (by omega))
      have hsm : i = 0 ∨ m ≤ i := by
        rcases Nat.eq_zero_or_pos k with q | q
        · left; rw [hs2, q, Nat.zero_mul]
        · right; rw [hs2]; exact Nat.le_mul_of_pos_left m q
      have HE := Lib.hid (show k + 1 ≤ many N m ∧ (i + m < N → i + m = (k + 1) * m) ∧ (N ≤ i + m → k + 1 = many N m) from by
        have h2 : k < many N m := (many_lt hm).2 (by omega)
        refine ⟨h2, fun h => ?_, fun h => ?_⟩
        · rw [Nat.add_mul, ← hs2]; omega
        · have h3 : ¬ k + 1 < many N m := fun h4 => by
            have h5 := (many_lt hm).1 h4
            rw [Nat.add_mul, ← hs2] at h5
            omega
          omega)
      clear hs2 hend hlt
      have i1 : (i : Int) < (N : Int) := by omega
      have i2 : (0 : Int) ≤ (i : Int) := by omega
      have i3 : (i : Int) ≤ (N : Int) := by omega
      by_cases hq : m ≤ N - i
      · have hmin : min m (N - i) = m := by omega
        have i4 : ¬ (N : Int) - (i : Int) < (m : Int) := by omega
        have i5 : (i : Int) ≤ (i : Int) + (m : Int) := by omega
        have i6 : (i : Int) + (m : Int) ≤ (cap : Int) := by omega
        have i7 : IntKind.i64.wrap ((i : Int) + (m : Int)) = (i : Int) + (m : Int) := by rw [IntKind.wrap_i64]; omega
        gi_wp2_with fail
        gi_region
        have hj2 := hJS k wr wr.drew (Ste.of_old (Old.re _).dr) hj
        have hb1 := hb1.drew
        have hb2 := hb2.drew
        have cl := hb1.cell 0
        have cs := hb2.cell 0
        simp only [List.getElem?_toArray, List.getElem?_cons_zero] at cl cs
        clear hj
        generalize wr.drew = w1 at *
        gi_wp2_with fail
        obtain ⟨fn, tmps, assign, body, hy, hR⟩ := hY k i w1 HST.out hj2
        dsimp only [encC] at hy
        rw [hmin] at hy
        rw [hy]
        gi_wp2_with fail
        refine hR.mono ?_
        rintro e W3 (⟨rfl, hJ3, hk3⟩ | ⟨rfl, hJx3⟩)
        · have hb13 : Bk W3 bl 30 #[.slice (some ⟨g0, o0, none⟩) N cap] := hk3.2 _ _ hb1 (by simp [mine, chkT])
          have hb23 : Bk W3 bs 3 #[.int .i64 (m : Int)] := hk3.2 _ _ hb2 (by simp [mine, chkT])
          have cs := hb23.cell 0
          simp only [List.getElem?_toArray, List.getElem?_cons_zero] at cs
          have i9 : IntKind.i64.wrap ((i : Int) + (m : Int)) = ((i + m : Nat) : Int) := by rw [IntKind.wrap_i64]; omega
          have HE2 := HE.out
          clear hb1 hb2 hk3 hy hR i4 i5 i6 i7 i1 i3
          gi_wp2
          refine ⟨⟨k + 1, i + m, by congr 1, HE2.1, HE2.2.1, HE2.2.2, hb13, hb23, hJ3⟩, ?_⟩
          simp [intOf]; omega
        · gi_wp2
          first | refine bodyPost_ret (results_none rfl _ _ _) rfl ?_ | refine bodyPost_end (results_none rfl _ _ _) rfl ?_
          exact ⟨⟨_, rfl⟩, .inr ⟨k + 1, by rw [startsOf_len]; have := HK.out; omega, hJx3⟩⟩
      · have hmin : min m (N - i) = N - i := by omega
        have i4 : (N : Int) - (i : Int) < (m : Int) := by omega
        have i5 : (i : Int) ≤ (i : Int) + ((N : Int) - (i : Int)) := by omega
        have i8 : (i : Int) + ((N : Int) - (i : Int)) = (N : Int) := by omega
        have i6 : (N : Int) ≤ (cap : Int) := by omega
        have i7 : IntKind.i64.wrap (N : Int) = (N : Int) := by rw [IntKind.wrap_i64]; omega
        gi_wp2_with fail
        gi_region
        have hj2 := hJS k wr wr.drew (Ste.of_old (Old.re _).dr) hj
        have hb1 := hb1.drew
        have hb2 := hb2.drew
        have cl := hb1.cell 0
        have cs := hb2.cell 0
        simp only [List.getElem?_toArray, List.getElem?_cons_zero] at cl cs
        clear hj
        generalize wr.drew = w1 at *
        gi_wp2_with fail
        obtain ⟨fn, tmps, assign, body, hy, hR⟩ := hY k i w1 HST.out hj2
        dsimp only [encC] at hy
        rw [hmin] at hy
        rw [hy]
        gi_wp2_with fail
        refine hR.mono ?_
        rintro e W3 (⟨rfl, hJ3, hk3⟩ | ⟨rfl, hJx3⟩)
        · have hb13 : Bk W3 bl 30 #[.slice (some ⟨g0, o0, none⟩) N cap] := hk3.2 _ _ hb1 (by simp [mine, chkT])
          have hb23 : Bk W3 bs 3 #[.int .i64 (m : Int)] := hk3.2 _ _ hb2 (by simp [mine, chkT])
          have cs := hb23.cell 0
          simp only [List.getElem?_toArray, List.getElem?_cons_zero] at cs
          have i9 : IntKind.i64.wrap ((i : Int) + (m : Int)) = ((i + m : Nat) : Int) := by rw [IntKind.wrap_i64]; omega
          have HE2 := HE.out
          clear hb1 hb2 hk3 hy hR i4 i5 i6 i7 i1 i3
          gi_wp2
          refine ⟨⟨k + 1, i + m, by congr 1, HE2.1, HE2.2.1, HE2.2.2, hb13, hb23, hJ3⟩, ?_⟩
          simp [intOf]; omega
        · gi_wp2
          first | refine bodyPost_ret (results_none rfl _ _ _) rfl ?_ | refine bodyPost_end (results_none rfl _ _ _) rfl ?_
          exact ⟨⟨_, rfl⟩, .inr ⟨k + 1, by rw [startsOf_len]; have := HK.out; omega, hJx3⟩⟩
    · have HF := Lib.hid (hend (by omega))
      have i1 : ¬ (i : Int) < (N : Int) := by omega
      clear hlt hend
      gi_wp2
      refine bodyPost_end (results_none rfl _ _ _) rfl ?_
      exact ⟨⟨_, rfl⟩, .inl (by rw [startsOf_len, ← HF.out]; exact hj)⟩

theorem chunk_in (n : Nat) (A : Option Addr) (N cap : Nat) (m : Nat) (hm : 1 ≤ m) (w : World) :
    CallsIn Fence.wide n Try.prog 29 #[.slice A N cap, .int .i64 (m : Int)] w fun e w' => e = .returned (.func (.func 40) #[] #[.pointer (some ⟨w.heap.size, 0, none⟩), .pointer (some ⟨w.heap.size + 1, 0, none⟩)]) ∧ w' = (w.alloc (.cells #[.slice A N cap] 30)).alloc (.cells #[.int .i64 (m : Int)] 3) := by
  refine callsIn_of_wp Try.func29 rfl trivial ?_ rfl
  simp only [Try.ntmps29, List.size_toArray, List.length_cons, List.length_nil, Nat.reduceAdd, Nat.reduceSub, Array.replicate_succ, Array.replicate_zero, List.push_toArray, List.append_toArray, List.nil_append, List.cons_append]
  have h1 : ¬ (m : Int) < 1 := by omega
  gi_wp2
  go_ret
  exact ⟨rfl, rfl⟩
theorem chunk_tells (n : Nat) (hn : 1 ≤ n) (bl bs g0 o0 N cap m : Nat) (A : Option Addr) (hA : 0 < N → A = some ⟨g0, o0, none⟩) (hN : N ≤ 100000) (hc : N ≤ cap) (hm : 1 ≤ m) (hm2 : m ≤ 9223372036854775807) (w : World)
    (hbl : Bk w bl 30 #[.slice A N cap]) (hbs : Bk w bs 3 #[.int .i64 (m : Int)]) :
    Tells Fence.wide n Try.prog 40 #[.pointer (some ⟨bl, 0, none⟩), .pointer (some ⟨bs, 0, none⟩)] (encC g0 o0 N m) (chkT bl) w.heap.size (startsOf N m) w := fun l J Jx W hW hJ _ hY h0 =>
  chunk1_in n hn l bl bs w.heap.size g0 o0 N cap m A hA hN hc hm hm2 J Jx hJ hY W (hbl.old hW) (hbs.old hW) h0
end Go.Proofs.Ytbccpplpfcfboaa
