/-
  The iterator over a block's cells, of the code: what it tells. Conditions: lengths as written.
-/
import Derived.Test.YtlmlopdakbbbjaaDoorIts
import Derived.Test.YtlmlopdakbbbjaaDoorMth
namespace Go.Proofs.YtlmlopdakbbbjaaDoor
open Go.RowKit Go.Shelf

attribute [local go_sem] Oper.semAt_some

/-- One thing that is told, and what is behind it. -/
def tellI (q : Option (Cel × List UInt8)) (last : List UInt8) (f : List UInt8 → List UInt8 → List (Option Cel)) : List (Option Cel) := match q with
  | none => [none]
  | some x => if Op.bytesLess last (key x.1) = true then some x.1 :: f (key x.1) x.2 else [none]
/-- What is told, from a place on, behind the last key: cells, and at the end none, if something is wrong. -/
def itsR : Nat → Nat → List UInt8 → List UInt8 → List (Option Cel)
  | 0, _, _, l => if l = [] then [] else [none]
  | n + 1, p, last, l => tellI (rdE (lend p last) l) last (fun k r => itsR n (p + 1) k r)
def itsOf : List UInt8 → List (Option Cel)
  | [] => [none]
  | b :: t => itsR b.toNat 0 [] t
def encE : Option Cel → Array Value
  | some c => #[en c (key c), .int .i64 0]
  | none => #[.agg zero7, .int .i64 50]
def itsT (t : TypeId) : Bool := t == 137 || t == 116

theorem lend_len (p : Nat) (last : List UInt8) (n : Nat) (h : last.length ≤ n) : (lend p last).length ≤ n := by
  unfold lend
  by_cases h1 : p % 4 = 0
  · rw [if_pos h1]; simp
  · rw [if_neg h1]; exact h
theorem at_of {α : Type} {L pre rest : List α} {x : α} {k : Nat} (h : L = pre ++ x :: rest) (hk : pre.length = k) : L[k]? = some x := by
  subst hk; rw [h]; simp

theorem itsR_zero {p : Nat} {last l : List UInt8} : itsR 0 p last l = if l = [] then [] else [none] := rfl
theorem itsR_succ {m p : Nat} {last l : List UInt8} : itsR (m + 1) p last l = tellI (rdE (lend p last) l) last (fun k r => itsR m (p + 1) k r) := rfl
theorem itsR_none {m p : Nat} {last l : List UInt8} (h : rdE (lend p last) l = none) : itsR (m + 1) p last l = [none] := by rw [itsR_succ, h]; rfl
theorem itsR_low {m p : Nat} {last l : List UInt8} {x : Cel × List UInt8} (h : rdE (lend p last) l = some x) (hb : Op.bytesLess last (key x.1) = false) : itsR (m + 1) p last l = [none] := by rw [itsR_succ, h]; simp [tellI, hb]
theorem itsR_some {m p : Nat} {last l : List UInt8} {x : Cel × List UInt8} (h : rdE (lend p last) l = some x) (hb : Op.bytesLess last (key x.1) = true) : itsR (m + 1) p last l = some x.1 :: itsR m (p + 1) (key x.1) x.2 := by rw [itsR_succ, h]; simp [tellI, hb]
/-- What a block's first byte tells. -/
theorem its_start (s : List UInt8) (hs : s.length ≤ 500000) : ∃ rest sh, (tk (s, false) 1).2 = (rest, sh) ∧ (sh = true → lowV (tk (s, false) 1).1 = 0) ∧ itsOf s = (if sh = true then [none] else itsR (lowV (tk (s, false) 1).1) 0 [] rest) ∧ rest.length ≤ 500000 ∧ lowV (tk (s, false) 1).1 ≤ 255 := by
  cases s with
  | nil => exact ⟨[], true, rfl, fun _ => rfl, rfl, by simp, by decide⟩
  | cons b t =>
    have e : tk (b :: t, false) 1 = ([b], (t, false)) := tk_app [b] t 1 rfl
    have hb := b.toNat_lt
    rw [e]
    rw [show lowV ([b], (t, false)).1 = b.toNat from lowV_one b]
    exact ⟨t, false, rfl, (fun h => by cases h), rfl, (by simp at hs; omega), (by omega)⟩

theorem entV_no7 {lends l : List UInt8} (h : rdE lends l = none) : entV lends l = .tuple #[.agg zero7, .bool false] := entV_no h

theorem less_cmp (a b : List UInt8) : Op.bytesLess a b = true ↔ cmpT a b = -1 := by
  unfold cmpT
  cases Op.bytesLess a b with
  | true => simp
  | false => simp; split <;> decide
theorem leq_not (a b : List UInt8) : (Op.bytesLess a b || a == b) = !Op.bytesLess b a := by
  have h1 := less_cmp a b
  have h2 := less_cmp b a
  have h3 := cmpT_neg a b
  have h4 := cmpT_zero a b
  have h5 := cmpT_vals a b
  cases ha : Op.bytesLess a b with
  | true =>
    rw [ha] at h1
    have h6 : Op.bytesLess b a = false := by
      cases hb : Op.bytesLess b a with
      | false => rfl
      | true => rw [hb] at h2; have := h1.1 rfl; have := h2.1 rfl; omega
    rw [h6]; rfl
  | false =>
    rw [ha] at h1
    by_cases e : a = b
    · subst e
      rw [ha]; simp
    · have h6 : cmpT a b ≠ 0 := fun x => e (h4 x)
      have h7 : cmpT a b ≠ -1 := fun x => by have := h1.2 x; cases this
      have h8 : Op.bytesLess b a = true := h2.2 (by omega)
      rw [h8]; simp [e]

/-- The iterator's frame: the reader, and what was. -/
structure Si (g D : Nat) (J : Nat → World → Prop) (k : Nat) (W : World) (st : List UInt8 × Bool) : Prop where
  rd : Rd W D st
  gd : g ≤ D
  jk : J k W
variable {g D : Nat} {J : Nat → World → Prop}
theorem Si.old {k : Nat} {W Z : World} {st : List UInt8 × Bool} (hJ : ∀ k A Z, Ste itsT g A Z → J k A → J k Z) (h : Si g D J k W st) (o : Old W Z) : Si g D J k Z st :=
  ⟨Bk.old h.rd o, h.gd, hJ _ _ _ (.of_old o) h.jk⟩
theorem Si.but {k : Nat} {W Z : World} {st st' : List UInt8 × Bool} (hJ : ∀ k A Z, Ste itsT g A Z → J k A → J k Z) (h : Si g D J k W st) (r : Rd Z D st') (b : But D W Z) : Si g D J k Z st' :=
  ⟨r, h.gd, hJ _ _ _ (.of_but b h.rd h.gd (by decide)) h.jk⟩
theorem Si.kep {k j : Nat} {W Z : World} {st : List UInt8 × Bool} (h : Si g D J k W st) (kp : Kep itsT g W Z) (hj : J j Z) : Si g D J j Z st :=
  ⟨kp.2 _ _ h.rd h.gd rfl, h.gd, hj⟩
theorem Kep.bk {W Z : World} {b : Nat} {cs : Array Value} (kp : Kep itsT g W Z) (h : Bk W b 116 cs) (hb : g ≤ b) : Bk Z b 116 cs := kp.2 _ _ h hb rfl

set_option maxRecDepth 100000 in
set_option maxHeartbeats 4000000 in
theorem entries1_in (n : Nat) (hn : 1 ≤ n) (l Bn g : Nat) (s : List UInt8) (hs : s.length ≤ 500000) (J Jx : Nat → World → Prop)
    (hJ : ∀ k A Z, Ste itsT g A Z → J k A → J k Z)
    (hY : ∀ k x W1, (itsOf s)[k]? = some x → J k W1 → YieldAt Fence.wide (n - 1) Tryd.prog l (encE x) W1 fun e Z => (e = .returned (.bool true) ∧ J (k + 1) Z ∧ Kep itsT g W1 Z) ∨ (e = .returned (.bool false) ∧ Jx (k + 1) Z))
    (W : World) (hg : g ≤ W.heap.size) (hBn : W.cell? ⟨Bn, 0, none⟩ = some (.string (B s))) (h0 : J 0 W) :
    CallsIn Fence.wide n Tryd.prog 80 #[.func (.yield l) #[] #[], .pointer (some ⟨Bn, 0, none⟩)] W fun e Z => (∃ v, e = .returned v) ∧ (J (itsOf s).length Z ∨ ∃ k, k ≤ (itsOf s).length ∧ Jx k Z) := by
  refine callsIn_of_wp Tryd.func80 rfl trivial ?_ rfl
  simp only [Tryd.ntmps80, List.size_toArray, List.length_cons, List.length_nil, Nat.reduceAdd, Nat.reduceSub, Array.replicate_succ, Array.replicate_zero, List.push_toArray, List.append_toArray, List.nil_append, List.cons_append]
  have i0 : Si g W.heap.size J 0 (W.alloc (.cells #[.string (B s), .bool false] 137)) (s, false) := ⟨new_bk _ _ _, hg, hJ _ _ _ (.of_old (old_alloc _ _)) h0⟩
  gi_wp2_with fail
  refine ⟨trivial, (callsIn_wide.2 (rnum_any W.heap.size (s, false) 1 _ i0.rd (by simp; omega) (by omega))).mono ?_⟩
  rintro r w1 ⟨rfl, hr, hb⟩
  have i1 := i0.but hJ hr hb
  clear i0 hr hb
  obtain ⟨rest0, sh0, hst, hsh, hit, hr0, hN⟩ := its_start s hs
  rw [hst] at i1
  generalize lowV (tk (s, false) 1).1 = N at *
  generalize W.heap.size = D at *
  clear hst hBn h0
  gi_wp2_with fail
  gi_loopw [4, 11] (fun v i wr => ∃ (k : Nat) (last rest : List UInt8) (sh : Bool) (pre : List (Option Cel)), v = .string (B last) ∧ i = .int .i64 k ∧ k ≤ N ∧ pre.length = k ∧ (sh = true → N = 0) ∧ itsOf s = pre ++ (if sh = true then [none] else itsR (N - k) k last rest) ∧ rest.length ≤ 500000 ∧ last.length ≤ 500000 ∧ Si g D J k wr (rest, sh))
    (fun _ i _ => N - (intOf i).toNat)
  case atStart => exact ⟨0, [], rest0, sh0, [], rfl, rfl, by omega, rfl, hsh, hit, hr0, by simp, i1⟩
  case round =>
    obtain ⟨k, last, rest, sh, pre, rfl, rfl, hk, hpl, hsh2, hit2, hrl, hll, hi⟩ := hrel
    by_cases hkN : k < N
    · have hI : decide ((k : Int) < (N : Int)) = true := by simp; omega
      cases sh with
      | true => have := hsh2 rfl; omega
      | false =>
      obtain ⟨m, hm⟩ : ∃ m, N - k = m + 1 := ⟨N - k - 1, by omega⟩
      have hit3 : itsOf s = pre ++ itsR (m + 1) k last rest := by rw [hit2, hm]; rfl
      have hle := lend_len k last 500000 hll
      clear hit2 hsh2
      gi_wp2_with fail
      refine ⟨trivial, (callsIn_wide.2 (lender_any k last _ (by omega))).mono ?_⟩
      rintro r w2 ⟨rfl, rfl⟩
      gi_wp2_with fail
      refine ⟨trivial, (callsIn_wide.2 (entry_any D (lend k last) rest _ hi.rd hrl hle)).mono ?_⟩
      rintro r w2 ⟨rfl, hr, hb⟩
      have h2 := hi.but hJ hr hb
      clear hi hr hb
      have hD2 : D < w2.heap.size := h2.rd.lt
      cases hrd : rdE (lend k last) rest with
      | none =>
        rw [entV_no7 hrd]
        have h3 := h2.old hJ (old_alloc _ (.cells zero7 116))
        have hit4 : itsOf s = pre ++ [none] := by rw [hit3, itsR_none hrd]
        obtain ⟨fn, tmps, assign, body, hy, hR⟩ := hY k none _ (at_of hit4 hpl) h3.jk
        dsimp only [encE] at hy
        gi_wp2_with fail
        refine hR.mono ?_
        have hlen : (itsOf s).length = k + 1 := by rw [hit4]; simp [hpl]
        rintro e W3 (⟨rfl, hJ3, hk3⟩ | ⟨rfl, hJx3⟩)
        · gi_wp2
          first | refine bodyPost_ret (results_none rfl _ _ _) rfl ?_ | refine bodyPost_end (results_none rfl _ _ _) rfl ?_
          exact ⟨⟨_, rfl⟩, .inl (by rw [hlen]; exact hJ3)⟩
        · gi_wp2
          first | refine bodyPost_ret (results_none rfl _ _ _) rfl ?_ | refine bodyPost_end (results_none rfl _ _ _) rfl ?_
          exact ⟨⟨_, rfl⟩, .inr ⟨k + 1, by rw [hlen]; exact Nat.le_refl _, hJx3⟩⟩
      | some x =>
        obtain ⟨c, rest2⟩ := x
        obtain ⟨hm, hok, hle2, hek, hst2⟩ := rdE_some hrd
        rw [entV_yes hrd, hek]
        rw [hst2] at h2
        simp only
        have hkl := key_len c hm
        have hr2 : rest2.length ≤ 500000 := by
          have := congrArg List.length hle2
          simp only [List.length_append] at this
          omega
        have h3 := h2.old hJ (old_alloc _ (.cells (ens c (key c)) 116))
        have b3 := new_bk w2 116 (ens c (key c))
        have hgb : g ≤ w2.heap.size := by have := h2.gd; omega
        have hlq := leq_not (key c) last
        cases hbl : Op.bytesLess last (key c) with
        | false =>
          rw [hbl, Bool.not_false] at hlq
          have hit4 : itsOf s = pre ++ [none] := by rw [hit3, itsR_low hrd hbl]
          obtain ⟨fn, tmps, assign, body, hy, hR⟩ := hY k none _ (at_of hit4 hpl) h3.jk
          dsimp only [encE] at hy
          gi_wp2_with fail
          refine hR.mono ?_
          have hlen : (itsOf s).length = k + 1 := by rw [hit4]; simp [hpl]
          rintro e W3 (⟨rfl, hJ3, hk3⟩ | ⟨rfl, hJx3⟩)
          · gi_wp2
            first | refine bodyPost_ret (results_none rfl _ _ _) rfl ?_ | refine bodyPost_end (results_none rfl _ _ _) rfl ?_
            exact ⟨⟨_, rfl⟩, .inl (by rw [hlen]; exact hJ3)⟩
          · gi_wp2
            first | refine bodyPost_ret (results_none rfl _ _ _) rfl ?_ | refine bodyPost_end (results_none rfl _ _ _) rfl ?_
            exact ⟨⟨_, rfl⟩, .inr ⟨k + 1, by rw [hlen]; exact Nat.le_refl _, hJx3⟩⟩
        | true =>
          rw [hbl, Bool.not_true] at hlq
          have hit4 : itsOf s = pre ++ some c :: itsR m (k + 1) (key c) rest2 := by rw [hit3, itsR_some hrd hbl]
          obtain ⟨fn, tmps, assign, body, hy, hR⟩ := hY k (some c) _ (at_of hit4 hpl) h3.jk
          dsimp only [encE] at hy
          gi_wp2_with fail
          refine hR.mono ?_
          rintro e W3 (⟨rfl, hJ3, hk3⟩ | ⟨rfl, hJx3⟩)
          · have h4 := h3.kep hk3 hJ3
            have b4 := hk3.bk b3 hgb
            have c6 := b4.cell 6
            simp only [List.getElem?_toArray, List.getElem?_cons_zero, List.getElem?_cons_succ] at c6
            gi_wp2
            refine ⟨⟨k + 1, key c, rest2, false, pre ++ [some c], rfl, ?_, by omega, by simp [hpl], (fun h => by cases h), ?_, hr2, by omega, h4⟩, ?_⟩
            · go_num
            · rw [hit4, show N - (k + 1) = m by omega]; simp
            · simp [intOf]; omega
          · have hlen : k + 1 ≤ (itsOf s).length := by rw [hit4]; simp [hpl]
            gi_wp2
            first | refine bodyPost_ret (results_none rfl _ _ _) rfl ?_ | refine bodyPost_end (results_none rfl _ _ _) rfl ?_
            exact ⟨⟨_, rfl⟩, .inr ⟨k + 1, hlen, hJx3⟩⟩
    · have hI : decide ((k : Int) < (N : Int)) = false := by simp; omega
      have hkN2 : N - k = 0 := by omega
      rw [hkN2] at hit2
      have c0 := hi.rd.cell 0
      have c1 := hi.rd.cell 1
      simp only [List.getElem?_toArray, List.getElem?_cons_zero, List.getElem?_cons_succ] at c0 c1
      cases sh with
      | true =>
        have hit4 : itsOf s = pre ++ [none] := hit2
        obtain ⟨fn, tmps, assign, body, hy, hR⟩ := hY k none _ (at_of hit4 hpl) hi.jk
        dsimp only [encE] at hy
        gi_wp2_with fail
        refine hR.mono ?_
        have hlen : (itsOf s).length = k + 1 := by rw [hit4]; simp [hpl]
        rintro e W3 (⟨rfl, hJ3, hk3⟩ | ⟨rfl, hJx3⟩)
        · gi_wp2
          first | refine bodyPost_ret (results_none rfl _ _ _) rfl ?_ | refine bodyPost_end (results_none rfl _ _ _) rfl ?_
          exact ⟨⟨_, rfl⟩, .inl (by rw [hlen]; exact hJ3)⟩
        · gi_wp2
          first | refine bodyPost_ret (results_none rfl _ _ _) rfl ?_ | refine bodyPost_end (results_none rfl _ _ _) rfl ?_
          exact ⟨⟨_, rfl⟩, .inr ⟨k + 1, by rw [hlen]; exact Nat.le_refl _, hJx3⟩⟩
      | false =>
        by_cases hre : rest = []
        · subst hre
          have hlen : (itsOf s).length = k := by rw [hit2]; simp [hpl, itsR_zero]
          gi_wp2
          refine bodyPost_end (results_none rfl _ _ _) rfl ?_
          exact ⟨⟨_, rfl⟩, .inl (by rw [hlen]; exact hi.jk)⟩
        · have hit4 : itsOf s = pre ++ [none] := by rw [hit2]; simp [itsR_zero, hre]
          have hre2 : rest.isEmpty = false := by simpa using hre
          obtain ⟨fn, tmps, assign, body, hy, hR⟩ := hY k none _ (at_of hit4 hpl) hi.jk
          dsimp only [encE] at hy
          gi_wp2_with fail
          refine hR.mono ?_
          have hlen : (itsOf s).length = k + 1 := by rw [hit4]; simp [hpl]
          rintro e W3 (⟨rfl, hJ3, hk3⟩ | ⟨rfl, hJx3⟩)
          · gi_wp2
            first | refine bodyPost_ret (results_none rfl _ _ _) rfl ?_ | refine bodyPost_end (results_none rfl _ _ _) rfl ?_
            exact ⟨⟨_, rfl⟩, .inl (by rw [hlen]; exact hJ3)⟩
          · gi_wp2
            first | refine bodyPost_ret (results_none rfl _ _ _) rfl ?_ | refine bodyPost_end (results_none rfl _ _ _) rfl ?_
            exact ⟨⟨_, rfl⟩, .inr ⟨k + 1, by rw [hlen]; exact Nat.le_refl _, hJx3⟩⟩

set_option maxHeartbeats 1000000 in
theorem entries_in (n : Nat) (s : List UInt8) (w : World) :
    CallsIn Fence.wide n Tryd.prog 64 #[.string (B s)] w fun e w' => e = .returned (.func (.func 80) #[] #[.pointer (some ⟨w.heap.size, 0, none⟩)]) ∧ w' = w.alloc (.cells #[.string (B s)] 9) := by
  refine callsIn_of_wp Tryd.func64 rfl trivial ?_ rfl
  simp only [Tryd.ntmps64, List.size_toArray, List.length_cons, List.length_nil, Nat.reduceAdd, Nat.reduceSub, Array.replicate_succ, Array.replicate_zero, List.push_toArray, List.append_toArray, List.nil_append, List.cons_append]
  gi_wp2
  go_ret
  exact ⟨rfl, rfl⟩

theorem entries_tells (n : Nat) (hn : 1 ≤ n) (Bn : Nat) (s : List UInt8) (hs : s.length ≤ 500000) (w : World) (hc : w.cell? ⟨Bn, 0, none⟩ = some (.string (B s))) :
    Tells Fence.wide n Tryd.prog 80 #[.pointer (some ⟨Bn, 0, none⟩)] encE itsT w.heap.size (itsOf s) w := fun l J Jx W hW hJ _ hY h0 =>
  entries1_in n hn l Bn w.heap.size s hs J Jx hJ hY W hW.size ((hW.cell (p := ⟨Bn, 0, none⟩) (World.block_lt_of_cell? w ⟨Bn, 0, none⟩ hc)).trans hc) h0
end Go.Proofs.YtlmlopdakbbbjaaDoor
