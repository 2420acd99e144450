/-
  What the reader takes as an entry, of the code. Conditions: lengths as written.
-/
import Derived.Test.YtlmlopdakbbbjaaGreatDoorRdr
import Derived.Test.YtlmlopdakbbbjaaGreatDoorRefKey
namespace Go.Proofs.YtlmlopdakbbbjaaGreatDoor
open Go.RowKit


/-- An entry: a cell, and its key. -/
abbrev ens (c : Cel) (k : List UInt8) : Array Value := #[.string (B c.row), .string (B c.col), .int .u64 c.ts, .int .u64 c.seq, .bool c.del, .string (B c.val), .string (B k)]
abbrev en (c : Cel) (k : List UInt8) : Value := .agg (ens c k)
abbrev zero7 : Array Value := #[.string ⟨#[]⟩, .string ⟨#[]⟩, .int .u64 0, .int .u64 0, .bool false, .string ⟨#[]⟩, .string ⟨#[]⟩]

def eA (l : List UInt8) := tk (l, false) 2
def eB (l : List UInt8) := tk (eA l).2 2
def eC (l : List UInt8) := tk (eB l).2 (lowV (eB l).1)
def eD (l : List UInt8) := tk (eC l).2 1
def eF (l : List UInt8) := tk (eD l).2 1
def eV (l : List UInt8) := tk (eF l).2 (lowV (eF l).1)
def eK (lends l : List UInt8) : List UInt8 := lends.take (lowV (eA l).1) ++ (eC l).1
def dress (x : Cel) (l : List UInt8) : Cel := ⟨x.row, x.col, x.ts, x.seq, decide (lowV (eD l).1 = 1), (eV l).1⟩
/-- The cell that the bytes begin by, behind the key that lends, and what is behind it. -/
def rdE (lends l : List UInt8) : Option (Cel × List UInt8) :=
  if (eV l).2.2 = true ∨ lends.length < lowV (eA l).1 ∨ 1 < lowV (eD l).1 then none
  else if share lends (eK lends l) ≠ lowV (eA l).1 then none
  else match fromK (eK lends l) with
    | none => none
    | some x => if mayB (dress x l) = true then some (dress x l, (eV l).2.1) else none
def entV (lends l : List UInt8) : Value := match rdE lends l with
  | some x => .tuple #[en x.1 (eK lends l), .bool true]
  | none => .tuple #[en zeroC [], .bool false]
theorem entV_no {lends l : List UInt8} (h : rdE lends l = none) : entV lends l = .tuple #[en zeroC [], .bool false] := by rw [entV, h]
theorem entV_yes {lends l : List UInt8} {x : Cel × List UInt8} (h : rdE lends l = some x) : entV lends l = .tuple #[en x.1 (eK lends l), .bool true] := by rw [entV, h]

theorem Bk.seven {W : World} {g : Nat} {t : TypeId} {u0 u1 u2 u3 u4 u5 u6 : Value} (h : Bk W g t #[u0, u1, u2, u3, u4, u5, u6]) :
    W.cell? ⟨g, 0, none⟩ = some u0 ∧ W.cell? ⟨g, 1, none⟩ = some u1 ∧ W.cell? ⟨g, 2, none⟩ = some u2 ∧ W.cell? ⟨g, 3, none⟩ = some u3 ∧ W.cell? ⟨g, 4, none⟩ = some u4 ∧ W.cell? ⟨g, 5, none⟩ = some u5 ∧ W.cell? ⟨g, 6, none⟩ = some u6 := by
  refine ⟨?_, ?_, ?_, ?_, ?_, ?_, ?_⟩ <;> (rw [h.cell]; rfl)
theorem put7 {W : World} {g : Nat} {t : TypeId} {v0 v1 v2 v3 v4 v5 v6 : Value} (h : Bk W g t #[v0, v1, v2, v3, v4, v5, v6]) (u0 u1 u2 u3 u4 u5 u6 : Value) :
    Bk (((((((W.setCell ⟨g, 0, none⟩ u0).setCell ⟨g, 1, none⟩ u1).setCell ⟨g, 2, none⟩ u2).setCell ⟨g, 3, none⟩ u3).setCell ⟨g, 4, none⟩ u4).setCell ⟨g, 5, none⟩ u5).setCell ⟨g, 6, none⟩ u6) g t #[u0, u1, u2, u3, u4, u5, u6] :=
  have h0 : Bk (W.setCell ⟨g, 0, none⟩ u0) g t #[u0, v1, v2, v3, v4, v5, v6] := h.set_ 0 u0
  have h1 : Bk ((W.setCell ⟨g, 0, none⟩ u0).setCell ⟨g, 1, none⟩ u1) g t #[u0, u1, v2, v3, v4, v5, v6] := h0.set_ 1 u1
  have h2 : Bk (((W.setCell ⟨g, 0, none⟩ u0).setCell ⟨g, 1, none⟩ u1).setCell ⟨g, 2, none⟩ u2) g t #[u0, u1, u2, v3, v4, v5, v6] := h1.set_ 2 u2
  have h3 : Bk ((((W.setCell ⟨g, 0, none⟩ u0).setCell ⟨g, 1, none⟩ u1).setCell ⟨g, 2, none⟩ u2).setCell ⟨g, 3, none⟩ u3) g t #[u0, u1, u2, u3, v4, v5, v6] := h2.set_ 3 u3
  have h4 : Bk (((((W.setCell ⟨g, 0, none⟩ u0).setCell ⟨g, 1, none⟩ u1).setCell ⟨g, 2, none⟩ u2).setCell ⟨g, 3, none⟩ u3).setCell ⟨g, 4, none⟩ u4) g t #[u0, u1, u2, u3, u4, v5, v6] := h3.set_ 4 u4
  have h5 : Bk ((((((W.setCell ⟨g, 0, none⟩ u0).setCell ⟨g, 1, none⟩ u1).setCell ⟨g, 2, none⟩ u2).setCell ⟨g, 3, none⟩ u3).setCell ⟨g, 4, none⟩ u4).setCell ⟨g, 5, none⟩ u5) g t #[u0, u1, u2, u3, u4, u5, v6] := h4.set_ 5 u5
  h5.set_ 6 u6
theorem rd7 {W : World} {g b : Nat} {t : TypeId} {cs : Array Value} (h : Bk W g t cs) (hne : g ≠ b) (u0 u1 u2 u3 u4 u5 u6 : Value) :
    Bk (((((((W.setCell ⟨b, 0, none⟩ u0).setCell ⟨b, 1, none⟩ u1).setCell ⟨b, 2, none⟩ u2).setCell ⟨b, 3, none⟩ u3).setCell ⟨b, 4, none⟩ u4).setCell ⟨b, 5, none⟩ u5).setCell ⟨b, 6, none⟩ u6) g t cs :=
  (((((((h.far hne _).far hne _).far hne _).far hne _).far hne _).far hne _).far hne _)
theorem but7 {w W : World} {g : Nat} (h : But g w W) (u0 u1 u2 u3 u4 u5 u6 : Value) :
    But g w (((((((W.setCell ⟨w.heap.size, 0, none⟩ u0).setCell ⟨w.heap.size, 1, none⟩ u1).setCell ⟨w.heap.size, 2, none⟩ u2).setCell ⟨w.heap.size, 3, none⟩ u3).setCell ⟨w.heap.size, 4, none⟩ u4).setCell ⟨w.heap.size, 5, none⟩ u5).setCell ⟨w.heap.size, 6, none⟩ u6) :=
  (((((((h.fst (Nat.le_refl _) _).fst (Nat.le_refl _) _).fst (Nat.le_refl _) _).fst (Nat.le_refl _) _).fst (Nat.le_refl _) _).fst (Nat.le_refl _) _).fst (Nat.le_refl _) _)

/-- The frame while an entry is read: the reader, and the result. -/
structure Se (w W : World) (g : Nat) (s : List UInt8 × Bool) : Prop where
  rd : Rd W g s
  rs : Bk W w.heap.size 128 zero7
  lt : g < w.heap.size
  bt : But g w W
theorem Se.but {w W W' : World} {g : Nat} {s s' : List UInt8 × Bool} (h : Se w W g s) (hr : Rd W' g s') (hb : But g W W') : Se w W' g s' :=
  ⟨hr, h.rs.but hb (by have := h.lt; omega), h.lt, h.bt.tr hb⟩
theorem Se.old {w W W' : World} {g : Nat} {s : List UInt8 × Bool} (h : Se w W g s) (hb : Old W W') : Se w W' g s :=
  ⟨Bk.old h.rd hb, h.rs.old hb, h.lt, h.bt.old hb⟩
theorem Se.far {w W : World} {g b : Nat} {s : List UInt8 × Bool} (h : Se w W g s) (hb : w.heap.size < b) (o : Nat) (u : Value) : Se w (W.setCell ⟨b, o, none⟩ u) g s :=
  ⟨Bk.far h.rd (by have := h.lt; simp; omega) _, h.rs.far (by simp; omega) _, h.lt, h.bt.fst (by simp; omega) _⟩

theorem lens (l : List UInt8) : (eA l).2.1.length ≤ l.length ∧ (eB l).2.1.length ≤ l.length ∧ (eC l).2.1.length ≤ l.length ∧ (eD l).2.1.length ≤ l.length ∧ (eF l).2.1.length ≤ l.length ∧ (eV l).2.1.length ≤ l.length := by
  have h1 : (eA l).2.1.length ≤ l.length := tk_left _ _
  have h2 : (eB l).2.1.length ≤ (eA l).2.1.length := tk_left _ _
  have h3 : (eC l).2.1.length ≤ (eB l).2.1.length := tk_left _ _
  have h4 : (eD l).2.1.length ≤ (eC l).2.1.length := tk_left _ _
  have h5 : (eF l).2.1.length ≤ (eD l).2.1.length := tk_left _ _
  have h6 : (eV l).2.1.length ≤ (eF l).2.1.length := tk_left _ _
  omega
theorem lowV_le (l : List UInt8) (n : Nat) (h : l.length ≤ n) (hn : n ≤ 2) : lowV l < 65536 := by
  have h1 := lowV_lt l
  have h2 : 256 ^ l.length ≤ 256 ^ 2 := Nat.pow_le_pow_right (by omega) (by omega)
  omega

set_option maxRecDepth 100000 in
set_option maxHeartbeats 4000000 in
theorem entry_any (g : Nat) (lends l : List UInt8) (w : World) (h : Rd w g (l, false)) (hl : l.length ≤ 500000) (hlen : lends.length ≤ 500000) :
    Calls Tryz.prog 111 #[.pointer (some ⟨g, 0, none⟩), .string (B lends)] w fun r w' => r = .returned (entV lends l) ∧ Rd w' g (eV l).2 ∧ But g w w' := by
  obtain ⟨q1, q2, q3, q4, q5, q6⟩ := lens l
  have v1 := lowV_le (eA l).1 2 (tk_len _ _) (by omega)
  have v2 := lowV_le (eB l).1 2 (tk_len _ _) (by omega)
  have v4 := lowV_le (eD l).1 1 (tk_len _ _) (by omega)
  have v5 := lowV_le (eF l).1 1 (tk_len _ _) (by omega)
  have cl : (eC l).1.length ≤ l.length := Nat.le_trans (tk_got _ _) q2
  go_enter Tryz.func111, Tryz.ntmps111
  go_wp2_with fail
  have h0 : Se w (w.alloc (.cells zero7 128)) g (l, false) := ⟨Bk.alloc h _, new_bk _ _ _, h.lt, (But.re _ _).al _ (Nat.le_refl _)⟩
  have cc := rnum_any g (l, false) 2 _ h0.rd (by simp; omega) (by omega)
  rw [show tk (l, false) 2 = eA l from rfl] at cc
  refine cc.mono ?_
  clear cc
  rintro r w1 ⟨rfl, hr, hb⟩
  have h1 : Se w w1 g (eA l).2 := h0.but hr hb
  clear h0 hr hb
  go_wp2_with fail
  have cc := rnum_any g (eA l).2 2 _ h1.rd (by omega) (by omega)
  rw [show tk (eA l).2 2 = eB l from rfl] at cc
  refine cc.mono ?_
  clear cc
  rintro r w2 ⟨rfl, hr, hb⟩
  have h2 : Se w w2 g (eB l).2 := h1.but hr hb
  clear h1 hr hb
  go_wp2_with fail
  have cc := rtake_any g (eB l).2 (lowV (eB l).1) _ h2.rd (by omega)
  rw [show tk (eB l).2 (lowV (eB l).1) = eC l from rfl] at cc
  refine cc.mono ?_
  clear cc
  rintro r w3 ⟨rfl, hr, hb⟩
  have h3 : Se w w3 g (eC l).2 := h2.but hr hb
  clear h2 hr hb
  go_wp2_with fail
  have cc := rnum_any g (eC l).2 1 _ h3.rd (by omega) (by omega)
  rw [show tk (eC l).2 1 = eD l from rfl] at cc
  refine cc.mono ?_
  clear cc
  rintro r w4 ⟨rfl, hr, hb⟩
  have h4 : Se w w4 g (eD l).2 := h3.but hr hb
  clear h3 hr hb
  go_wp2_with fail
  have cc := rnum_any g (eD l).2 1 _ h4.rd (by omega) (by omega)
  rw [show tk (eD l).2 1 = eF l from rfl] at cc
  refine cc.mono ?_
  clear cc
  rintro r w5 ⟨rfl, hr, hb⟩
  have h5 : Se w w5 g (eF l).2 := h4.but hr hb
  clear h4 hr hb
  go_wp2_with fail
  have cc := rtake_any g (eF l).2 (lowV (eF l).1) _ h5.rd (by omega)
  rw [show tk (eF l).2 (lowV (eF l).1) = eV l from rfl] at cc
  refine cc.mono ?_
  clear cc
  rintro r w6 ⟨rfl, hr, hb⟩
  have h6 : Se w w6 g (eV l).2 := h5.but hr hb
  clear h5 hr hb
  have HR := Lib.hid (show rdE lends l = if (eV l).2.2 = true ∨ lends.length < lowV (eA l).1 ∨ 1 < lowV (eD l).1 then none
    else if share lends (lends.take (lowV (eA l).1) ++ (eC l).1) ≠ lowV (eA l).1 then none
    else match fromK (lends.take (lowV (eA l).1) ++ (eC l).1) with
      | none => none
      | some x => if mayB ⟨x.row, x.col, x.ts, x.seq, decide (lowV (eD l).1 = 1), (eV l).1⟩ = true then some (⟨x.row, x.col, x.ts, x.seq, decide (lowV (eD l).1 = 1), (eV l).1⟩, (eV l).2.1) else none from rfl)
  have HK := Lib.hid (show eK lends l = lends.take (lowV (eA l).1) ++ (eC l).1 from rfl)
  generalize hV : eV l = V at *
  have HE := Lib.hid hV
  clear hV q1 q2 q3 q4 q5 q6 v2 v5
  generalize lowV (eA l).1 = n at *
  generalize lowV (eD l).1 = d at *
  generalize (eC l).1 = cc at *
  obtain ⟨v, r, sh⟩ := V
  simp only at HR h6
  have c1 := h6.rd.cell 1
  simp only [List.getElem?_toArray, List.getElem?_cons_zero, List.getElem?_cons_succ] at c1
  obtain ⟨r0, r1, r2, r3, r4, r5, r6⟩ := Bk.seven h6.rs
  have rf := h6.rs.fr
  cases sh with
  | true =>
    have HV := Lib.hid (entV_no (show rdE lends l = none by rw [HR.out]; simp))
    go_wp2
    rw [HE.out]
    have hB := put7 h6.rs (.string ⟨#[]⟩) (.string ⟨#[]⟩) (.int .u64 0) (.int .u64 0) (.bool false) (.string ⟨#[]⟩) (.string ⟨#[]⟩)
    have hR := rd7 h6.rd (show g ≠ w.heap.size by have := h6.lt; omega) (.string ⟨#[]⟩) (.string ⟨#[]⟩) (.int .u64 0) (.int .u64 0) (.bool false) (.string ⟨#[]⟩) (.string ⟨#[]⟩)
    have hO := but7 h6.bt (.string ⟨#[]⟩) (.string ⟨#[]⟩) (.int .u64 0) (.int .u64 0) (.bool false) (.string ⟨#[]⟩) (.string ⟨#[]⟩)
    rw [HV.out]
    generalize (((((((w6.setCell ⟨w.heap.size, 0, none⟩ (.string ⟨#[]⟩)).setCell ⟨w.heap.size, 1, none⟩ (.string ⟨#[]⟩)).setCell ⟨w.heap.size, 2, none⟩ (.int .u64 0)).setCell ⟨w.heap.size, 3, none⟩ (.int .u64 0)).setCell ⟨w.heap.size, 4, none⟩ (.bool false)).setCell ⟨w.heap.size, 5, none⟩ (.string ⟨#[]⟩)).setCell ⟨w.heap.size, 6, none⟩ (.string ⟨#[]⟩)) = w15 at *
    obtain ⟨z0, z1, z2, z3, z4, z5, z6⟩ := Bk.seven hB
    exact bodyPost_ret (v := .tuple #[en zeroC [], .bool false]) (by simp [results, Tryz.results111, go_sem, z0, z1, z2, z3, z4, z5, z6, zeroC]) rfl ⟨rfl, hR, hO⟩
  | false =>
  by_cases hn : lends.length < n
  · have hd : decide ((lends.length : Int) < (n : Int)) = true := by simp; omega
    have HV := Lib.hid (entV_no (show rdE lends l = none by rw [HR.out]; simp [hn]))
    go_wp2
    rw [HE.out]
    have hB := put7 h6.rs (.string ⟨#[]⟩) (.string ⟨#[]⟩) (.int .u64 0) (.int .u64 0) (.bool false) (.string ⟨#[]⟩) (.string ⟨#[]⟩)
    have hR := rd7 h6.rd (show g ≠ w.heap.size by have := h6.lt; omega) (.string ⟨#[]⟩) (.string ⟨#[]⟩) (.int .u64 0) (.int .u64 0) (.bool false) (.string ⟨#[]⟩) (.string ⟨#[]⟩)
    have hO := but7 h6.bt (.string ⟨#[]⟩) (.string ⟨#[]⟩) (.int .u64 0) (.int .u64 0) (.bool false) (.string ⟨#[]⟩) (.string ⟨#[]⟩)
    rw [HV.out]
    generalize (((((((w6.setCell ⟨w.heap.size, 0, none⟩ (.string ⟨#[]⟩)).setCell ⟨w.heap.size, 1, none⟩ (.string ⟨#[]⟩)).setCell ⟨w.heap.size, 2, none⟩ (.int .u64 0)).setCell ⟨w.heap.size, 3, none⟩ (.int .u64 0)).setCell ⟨w.heap.size, 4, none⟩ (.bool false)).setCell ⟨w.heap.size, 5, none⟩ (.string ⟨#[]⟩)).setCell ⟨w.heap.size, 6, none⟩ (.string ⟨#[]⟩)) = w15 at *
    obtain ⟨z0, z1, z2, z3, z4, z5, z6⟩ := Bk.seven hB
    exact bodyPost_ret (v := .tuple #[en zeroC [], .bool false]) (by simp [results, Tryz.results111, go_sem, z0, z1, z2, z3, z4, z5, z6, zeroC]) rfl ⟨rfl, hR, hO⟩
  have hd : decide ((lends.length : Int) < (n : Int)) = false := by simp; omega
  by_cases h1d : 1 < d
  · have hd2 : decide ((1 : Int) < (d : Int)) = true := by simp; omega
    have HV := Lib.hid (entV_no (show rdE lends l = none by rw [HR.out]; simp [h1d]))
    go_wp2
    rw [HE.out]
    have hB := put7 h6.rs (.string ⟨#[]⟩) (.string ⟨#[]⟩) (.int .u64 0) (.int .u64 0) (.bool false) (.string ⟨#[]⟩) (.string ⟨#[]⟩)
    have hR := rd7 h6.rd (show g ≠ w.heap.size by have := h6.lt; omega) (.string ⟨#[]⟩) (.string ⟨#[]⟩) (.int .u64 0) (.int .u64 0) (.bool false) (.string ⟨#[]⟩) (.string ⟨#[]⟩)
    have hO := but7 h6.bt (.string ⟨#[]⟩) (.string ⟨#[]⟩) (.int .u64 0) (.int .u64 0) (.bool false) (.string ⟨#[]⟩) (.string ⟨#[]⟩)
    rw [HV.out]
    generalize (((((((w6.setCell ⟨w.heap.size, 0, none⟩ (.string ⟨#[]⟩)).setCell ⟨w.heap.size, 1, none⟩ (.string ⟨#[]⟩)).setCell ⟨w.heap.size, 2, none⟩ (.int .u64 0)).setCell ⟨w.heap.size, 3, none⟩ (.int .u64 0)).setCell ⟨w.heap.size, 4, none⟩ (.bool false)).setCell ⟨w.heap.size, 5, none⟩ (.string ⟨#[]⟩)).setCell ⟨w.heap.size, 6, none⟩ (.string ⟨#[]⟩)) = w15 at *
    obtain ⟨z0, z1, z2, z3, z4, z5, z6⟩ := Bk.seven hB
    exact bodyPost_ret (v := .tuple #[en zeroC [], .bool false]) (by simp [results, Tryz.results111, go_sem, z0, z1, z2, z3, z4, z5, z6, zeroC]) rfl ⟨rfl, hR, hO⟩
  have hd2 : decide ((1 : Int) < (d : Int)) = false := by simp; omega
  have hnle : (n : Int) ≤ (lends.length : Int) := by omega
  go_wp2_with fail
  rw [ext_take, add_B]
  have hkl : (lends.take n ++ cc).length ≤ 1000000 := by simp; omega
  generalize lends.take n ++ cc = ky at *
  refine (shared_any lends ky _ (by omega) (by omega)).mono ?_
  rintro e w7 ⟨rfl, k7⟩
  have h7 := h6.old k7
  clear h6 k7 c1 r0 r1 r2 r3 r4 r5 r6 rf
  obtain ⟨r0, r1, r2, r3, r4, r5, r6⟩ := Bk.seven h7.rs
  have rf := h7.rs.fr
  have HR2 := Lib.hid (show rdE lends l = if share lends ky ≠ n then none else match fromK ky with
      | none => none
      | some x => if mayB ⟨x.row, x.col, x.ts, x.seq, decide (d = 1), v⟩ = true then some (⟨x.row, x.col, x.ts, x.seq, decide (d = 1), v⟩, r) else none by
    rw [HR.out, if_neg (by simp; omega)])
  clear HR hd hd2
  by_cases hsh : share lends ky = n
  case neg =>
    have hI : (((share lends ky : Nat) : Int) != (n : Int)) = true := by rw [bne_iff_ne]; omega
    have HV := Lib.hid (entV_no (show rdE lends l = none by rw [HR2.out, if_pos hsh]))
    go_wp2
    rw [HE.out]
    have hB := put7 h7.rs (.string ⟨#[]⟩) (.string ⟨#[]⟩) (.int .u64 0) (.int .u64 0) (.bool false) (.string ⟨#[]⟩) (.string ⟨#[]⟩)
    have hR := rd7 h7.rd (show g ≠ w.heap.size by have := h7.lt; omega) (.string ⟨#[]⟩) (.string ⟨#[]⟩) (.int .u64 0) (.int .u64 0) (.bool false) (.string ⟨#[]⟩) (.string ⟨#[]⟩)
    have hO := but7 h7.bt (.string ⟨#[]⟩) (.string ⟨#[]⟩) (.int .u64 0) (.int .u64 0) (.bool false) (.string ⟨#[]⟩) (.string ⟨#[]⟩)
    rw [HV.out]
    generalize (((((((w7.setCell ⟨w.heap.size, 0, none⟩ (.string ⟨#[]⟩)).setCell ⟨w.heap.size, 1, none⟩ (.string ⟨#[]⟩)).setCell ⟨w.heap.size, 2, none⟩ (.int .u64 0)).setCell ⟨w.heap.size, 3, none⟩ (.int .u64 0)).setCell ⟨w.heap.size, 4, none⟩ (.bool false)).setCell ⟨w.heap.size, 5, none⟩ (.string ⟨#[]⟩)).setCell ⟨w.heap.size, 6, none⟩ (.string ⟨#[]⟩)) = w15 at *
    obtain ⟨z0, z1, z2, z3, z4, z5, z6⟩ := Bk.seven hB
    exact bodyPost_ret (v := .tuple #[en zeroC [], .bool false]) (by simp [results, Tryz.results111, go_sem, z0, z1, z2, z3, z4, z5, z6, zeroC]) rfl ⟨rfl, hR, hO⟩
  have hI : (((share lends ky : Nat) : Int) != (n : Int)) = false := by rw [bne_eq_false_iff_eq]; omega
  have HR3 := Lib.hid (show rdE lends l = match fromK ky with
      | none => none
      | some x => if mayB ⟨x.row, x.col, x.ts, x.seq, decide (d = 1), v⟩ = true then some (⟨x.row, x.col, x.ts, x.seq, decide (d = 1), v⟩, r) else none by
    rw [HR2.out, if_neg (by simp [hsh])])
  clear HR2
  go_wp2_with fail
  refine (fromKey_any ky _ hkl).mono ?_
  rintro e w8 ⟨rfl, k8⟩
  have h8 := h7.old k8
  clear h7 k8 r0 r1 r2 r3 r4 r5 r6 rf hI
  obtain ⟨r0, r1, r2, r3, r4, r5, r6⟩ := Bk.seven h8.rs
  have rf := h8.rs.fr
  cases hfk : fromK ky with
  | none =>
    rw [show fromV ky = .tuple #[.agg zeroCell, .int .i64 1] by simp [fromV, hfk]]
    have HV := Lib.hid (entV_no (show rdE lends l = none by rw [HR3.out, hfk]))
    go_upto_region 11 with (fail)
    have h9 := h8.old (old_alloc _ (.cells zeroCell 34))
    generalize w8.alloc (.cells zeroCell 34) = w9 at *
    clear h8 r0 r1 r2 r3 r4 r5 r6 rf
    obtain ⟨r0, r1, r2, r3, r4, r5, r6⟩ := Bk.seven h9.rs
    have rf := h9.rs.fr
    go_wp2
    rw [HE.out]
    have hB := put7 h9.rs (.string ⟨#[]⟩) (.string ⟨#[]⟩) (.int .u64 0) (.int .u64 0) (.bool false) (.string ⟨#[]⟩) (.string ⟨#[]⟩)
    have hR := rd7 h9.rd (show g ≠ w.heap.size by have := h9.lt; omega) (.string ⟨#[]⟩) (.string ⟨#[]⟩) (.int .u64 0) (.int .u64 0) (.bool false) (.string ⟨#[]⟩) (.string ⟨#[]⟩)
    have hO := but7 h9.bt (.string ⟨#[]⟩) (.string ⟨#[]⟩) (.int .u64 0) (.int .u64 0) (.bool false) (.string ⟨#[]⟩) (.string ⟨#[]⟩)
    rw [HV.out]
    generalize (((((((w9.setCell ⟨w.heap.size, 0, none⟩ (.string ⟨#[]⟩)).setCell ⟨w.heap.size, 1, none⟩ (.string ⟨#[]⟩)).setCell ⟨w.heap.size, 2, none⟩ (.int .u64 0)).setCell ⟨w.heap.size, 3, none⟩ (.int .u64 0)).setCell ⟨w.heap.size, 4, none⟩ (.bool false)).setCell ⟨w.heap.size, 5, none⟩ (.string ⟨#[]⟩)).setCell ⟨w.heap.size, 6, none⟩ (.string ⟨#[]⟩)) = w15 at *
    obtain ⟨z0, z1, z2, z3, z4, z5, z6⟩ := Bk.seven hB
    exact bodyPost_ret (v := .tuple #[en zeroC [], .bool false]) (by simp [results, Tryz.results111, go_sem, z0, z1, z2, z3, z4, z5, z6, zeroC]) rfl ⟨rfl, hR, hO⟩
  | some x =>
    rw [show fromV ky = .tuple #[cv x, .int .i64 0] by simp [fromV, hfk]]
    have HR4 := Lib.hid (show rdE lends l = if mayB ⟨x.row, x.col, x.ts, x.seq, decide (d = 1), v⟩ = true then some (⟨x.row, x.col, x.ts, x.seq, decide (d = 1), v⟩, r) else none by rw [HR3.out, hfk])
    clear HR3
    have hsz : w.heap.size < w8.heap.size := h8.rs.lt
    go_upto_region 13 with (fail)
    have h9 := h8.old (old_alloc _ (.cells (cells x) 34))
    have b9 := new_bk w8 34 (cells x)
    generalize w8.alloc (.cells (cells x) 34) = w9 at *
    clear h8 r0 r1 r2 r3 r4 r5 r6 rf
    generalize w8.heap.size = b at *
    have f9 := b9.fr
    obtain ⟨x0, x1, x2, x3, x4, x5⟩ := b9.six
    have hdd : ((d : Int) == 1) = decide (d = 1) := by rw [Bool.eq_iff_iff]; simp; omega
    go_upto_region 15 with (fail)
    have h10 := (h9.far hsz 4 (.bool (decide (d = 1)))).far hsz 5 (.string (B v))
    have b10 : Bk ((w9.setCell ⟨b, 4, none⟩ (.bool (decide (d = 1)))).setCell ⟨b, 5, none⟩ (.string (B v))) b 34 (cells ⟨x.row, x.col, x.ts, x.seq, decide (d = 1), v⟩) := (b9.set_ 4 _).set_ 5 _
    generalize (w9.setCell ⟨b, 4, none⟩ (.bool (decide (d = 1)))).setCell ⟨b, 5, none⟩ (.string (B v)) = w10 at *
    clear h9 b9 x0 x1 x2 x3 x4 x5 f9 hdd
    generalize (⟨x.row, x.col, x.ts, x.seq, decide (d = 1), v⟩ : Cel) = c at *
    obtain ⟨x0, x1, x2, x3, x4, x5⟩ := b10.six
    go_wp2_with fail
    refine (may_any c _).mono ?_
    rintro e w11 ⟨rfl, k11⟩
    have h11 := h10.old k11
    have b11 := b10.old k11
    clear h10 b10 k11 x0 x1 x2 x3 x4 x5
    obtain ⟨x0, x1, x2, x3, x4, x5⟩ := b11.six
    obtain ⟨r0, r1, r2, r3, r4, r5, r6⟩ := Bk.seven h11.rs
    have rf := h11.rs.fr
    cases hm : mayB c
    · have HV := Lib.hid (entV_no (show rdE lends l = none by rw [HR4.out, hm]; rfl))
      go_wp2
      rw [HE.out]
      have hB := put7 h11.rs (.string ⟨#[]⟩) (.string ⟨#[]⟩) (.int .u64 0) (.int .u64 0) (.bool false) (.string ⟨#[]⟩) (.string ⟨#[]⟩)
      have hR := rd7 h11.rd (show g ≠ w.heap.size by have := h11.lt; omega) (.string ⟨#[]⟩) (.string ⟨#[]⟩) (.int .u64 0) (.int .u64 0) (.bool false) (.string ⟨#[]⟩) (.string ⟨#[]⟩)
      have hO := but7 h11.bt (.string ⟨#[]⟩) (.string ⟨#[]⟩) (.int .u64 0) (.int .u64 0) (.bool false) (.string ⟨#[]⟩) (.string ⟨#[]⟩)
      rw [HV.out]
      generalize (((((((w11.setCell ⟨w.heap.size, 0, none⟩ (.string ⟨#[]⟩)).setCell ⟨w.heap.size, 1, none⟩ (.string ⟨#[]⟩)).setCell ⟨w.heap.size, 2, none⟩ (.int .u64 0)).setCell ⟨w.heap.size, 3, none⟩ (.int .u64 0)).setCell ⟨w.heap.size, 4, none⟩ (.bool false)).setCell ⟨w.heap.size, 5, none⟩ (.string ⟨#[]⟩)).setCell ⟨w.heap.size, 6, none⟩ (.string ⟨#[]⟩)) = w15 at *
      obtain ⟨z0, z1, z2, z3, z4, z5, z6⟩ := Bk.seven hB
      exact bodyPost_ret (v := .tuple #[en zeroC [], .bool false]) (by simp [results, Tryz.results111, go_sem, z0, z1, z2, z3, z4, z5, z6, zeroC]) rfl ⟨rfl, hR, hO⟩
    · have HV := Lib.hid (show entV lends l = .tuple #[en c ky, .bool true] by rw [entV_yes (show rdE lends l = some (c, r) by rw [HR4.out, hm]; rfl), HK.out])
      go_wp2
      rw [HE.out]
      have hB := put7 h11.rs (.string (B c.row)) (.string (B c.col)) (.int .u64 c.ts) (.int .u64 c.seq) (.bool c.del) (.string (B c.val)) (.string (B ky))
      have hR := rd7 h11.rd (show g ≠ w.heap.size by have := h11.lt; omega) (.string (B c.row)) (.string (B c.col)) (.int .u64 c.ts) (.int .u64 c.seq) (.bool c.del) (.string (B c.val)) (.string (B ky))
      have hO := but7 h11.bt (.string (B c.row)) (.string (B c.col)) (.int .u64 c.ts) (.int .u64 c.seq) (.bool c.del) (.string (B c.val)) (.string (B ky))
      rw [HV.out]
      generalize (((((((w11.setCell ⟨w.heap.size, 0, none⟩ (.string (B c.row))).setCell ⟨w.heap.size, 1, none⟩ (.string (B c.col))).setCell ⟨w.heap.size, 2, none⟩ (.int .u64 c.ts)).setCell ⟨w.heap.size, 3, none⟩ (.int .u64 c.seq)).setCell ⟨w.heap.size, 4, none⟩ (.bool c.del)).setCell ⟨w.heap.size, 5, none⟩ (.string (B c.val))).setCell ⟨w.heap.size, 6, none⟩ (.string (B ky))) = w15 at *
      obtain ⟨z0, z1, z2, z3, z4, z5, z6⟩ := Bk.seven hB
      exact bodyPost_ret (v := .tuple #[en c ky, .bool true]) (by simp [results, Tryz.results111, go_sem, z0, z1, z2, z3, z4, z5, z6]) rfl ⟨rfl, hR, hO⟩
end Go.Proofs.YtlmlopdakbbbjaaGreatDoor
