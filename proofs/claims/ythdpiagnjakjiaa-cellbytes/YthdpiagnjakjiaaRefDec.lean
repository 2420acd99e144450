/-
  The reference's Decode answers what the code's does. Condition: the text has at most 1000 bytes.
-/
import Derived.Test.YthdpiagnjakjiaaRef
namespace Go.Proofs.Ythdpiagnjakjiaa
open Go.RowKit

/-- A text behind a byte of its length, and what is behind it. -/
def shortM : List UInt8 → Option (List UInt8 × List UInt8)
  | [] => none
  | b :: t => if b.toNat ≤ t.length then some (t.take b.toNat, t.drop b.toNat) else none
theorem shortM_cons (b : UInt8) (t : List UInt8) : shortM (b :: t) = if b.toNat ≤ t.length then some (t.take b.toNat, t.drop b.toNat) else none := rfl
def shortV (s : List UInt8) : Value := match shortM s with
  | some x => .tuple #[.string (B x.1), .string (B x.2), .bool true]
  | none => .tuple #[.string ⟨#[]⟩, .string ⟨#[]⟩, .bool false]

set_option maxHeartbeats 2000000 in
theorem rshort_any (s : List UInt8) (w : World) (hs : s.length ≤ 1000) :
    Calls Try.prog 49 #[.string (B s)] w fun e w' => e = .returned (shortV s) ∧ Old w w' := by
  cases s with
  | nil =>
    go_enter Try.func49, Try.ntmps49
    go_wp2
    go_ret3
    exact ⟨rfl, Old.re _⟩
  | cons b t =>
    have hix : (B (b :: t))[0]'(by simp [ByteArray.size]) = b := rfl
    have hb := b.toNat_lt
    have hlen : ((b :: t).length : Int) = (t.length : Int) + 1 := by simp
    have hwb : wrap64 (b.toNat : Int) = (b.toNat : Int) := by unfold wrap64; omega
    by_cases h : b.toNat ≤ t.length
    · have HV := Lib.hid (show shortV (b :: t) = .tuple #[.string (B (t.take b.toNat)), .string (B (t.drop b.toNat)), .bool true] by simp [shortV, shortM, h])
      have hI : ((t.length : Int) + 1 == 0) = false := by rw [beq_eq_false_iff_ne]; omega
      have hI2 : decide ((t.length : Int) + 1 < 1 + (b.toNat : Int)) = false := by simp; omega
      go_enter Try.func49, Try.ntmps49
      have hw1 : IntKind.i64.wrap (b.toNat : Int) = (b.toNat : Int) := by rw [IntKind.wrap_i64]; omega
      have hw2 : IntKind.i64.wrap (1 + (b.toNat : Int)) = 1 + (b.toNat : Int) := by rw [IntKind.wrap_i64]; omega
      have hw3 : (1 + (b.toNat : Int)).toNat = 1 + b.toNat := by omega
      have hw4 : (1 : Int) ≤ 1 + (b.toNat : Int) := by omega
      have hw5 : (0 : Int) ≤ 1 + (b.toNat : Int) := by omega
      have hw6 : 1 + (b.toNat : Int) ≤ (t.length : Int) + 1 := by omega
      go_wp2_with fail
      go_region
      go_wp2
      go_ret3
      refine ⟨?_, (Old.re _).dr⟩
      have x1 : (B (b :: t)).extract 1 (1 + b.toNat) = B (t.take b.toNat) := by rw [ext_B]; simp
      have x2 : (B (b :: t)).extract (1 + b.toNat) (t.length + 1) = B (t.drop b.toNat) := by
        rw [ext_drop _ _ _ (by simp), Nat.add_comm 1, List.drop_succ_cons]
      rw [HV.out, x1, x2]
      rfl
    · have HV := Lib.hid (show shortV (b :: t) = .tuple #[.string ⟨#[]⟩, .string ⟨#[]⟩, .bool false] by simp [shortV, shortM, h])
      have hI : ((t.length : Int) + 1 == 0) = false := by rw [beq_eq_false_iff_ne]; omega
      have hI2 : decide ((t.length : Int) + 1 < 1 + (b.toNat : Int)) = true := by simp; omega
      go_enter Try.func49, Try.ntmps49
      go_wp2
      go_ret3
      exact ⟨by rw [HV.out]; rfl, Old.re _⟩

theorem short_text {s : List UInt8} {x : List UInt8 × List UInt8} (h : shortM s = some x) : textT s 0 = x.1 ∧ textL s 0 = x.2 ∧ textE s 0 = 0 := by
  cases s with
  | nil => cases h
  | cons b t =>
    rw [shortM_cons] at h
    split at h
    · rename_i hb
      injection h with h
      subst h
      obtain ⟨h1, h2, h3⟩ := take1 b t
      unfold textT textL textE
      rw [h1, h2, h3]
      refine ⟨?_, ?_, ?_⟩
      · simp [takeT, hb]
      · simp [takeL, hb]
      · simp [takeE]; omega
    · cases h
theorem short_none {s : List UInt8} (h : shortM s = none) : textE s 0 = 10 := by
  cases s with
  | nil => simp [textE, takeE]
  | cons b t =>
    rw [shortM_cons] at h
    split at h
    · cases h
    · rename_i hb
      obtain ⟨h1, h2, h3⟩ := take1 b t
      unfold textE
      rw [h1, h2, h3]
      simp [takeE]; omega
theorem short_le {s : List UInt8} {x : List UInt8 × List UInt8} (h : shortM s = some x) : x.2.length ≤ s.length := by
  cases s with
  | nil => cases h
  | cons b t =>
    rw [shortM_cons] at h
    split at h
    · injection h with h
      subst h
      simp; omega
    · cases h
theorem takeE_lt (l : List UInt8) (n : Nat) (h : l.length < n) : takeE l 0 n = 10 := by simp [takeE, h]
theorem takeE_ge (l : List UInt8) (n : Nat) (h : n ≤ l.length) : takeE l 0 n = 0 ∧ takeL l 0 n = l.drop n ∧ takeT l 0 n = l.take n := by
  refine ⟨?_, ?_, ?_⟩
  · simp [takeE]; omega
  · simp [takeL, h]
  · simp [takeT, h]
theorem two_parts {s : List UInt8} {x y : List UInt8 × List UInt8} (h1 : shortM s = some x) (h2 : shortM x.2 = some y) : dR s = x.1 ∧ dC s = y.1 ∧ dL2 s = y.2 ∧ dE2 s = 0 := by
  obtain ⟨a1, a2, a3⟩ := short_text h1
  obtain ⟨b1, b2, b3⟩ := short_text h2
  simp [dR, dC, dL2, dE2, dL1, dE1, a1, a2, a3, b1, b2, b3]
theorem dec_A {s : List UInt8} (h1 : shortM s = none) : dE6 s = 10 := dE6_of1 (short_none h1) (by omega)
theorem dec_B {s : List UInt8} {x : List UInt8 × List UInt8} (h1 : shortM s = some x) (h2 : shortM x.2 = none) : dE6 s = 10 := by
  obtain ⟨a1, a2, a3⟩ := short_text h1
  refine dE6_of2 ?_ (by omega)
  unfold dE2 dL1 dE1
  rw [a2, a3]
  exact short_none h2
theorem dec_C {s : List UInt8} {x y : List UInt8 × List UInt8} (h1 : shortM s = some x) (h2 : shortM x.2 = some y) (h3 : y.2.length < 17) : dE6 s = 10 := by
  obtain ⟨a1, a2, a3, a4⟩ := two_parts h1 h2
  by_cases k1 : y.2.length < 8
  · exact dE6_of3 (by unfold dE3; rw [a3, a4]; exact takeE_lt _ _ k1) (by omega)
  obtain ⟨e1, e2, e3⟩ := takeE_ge y.2 8 (by omega)
  have l3 : dL3 s = y.2.drop 8 := by unfold dL3; rw [a3, a4, e2]
  have l4 : dE3 s = 0 := by unfold dE3; rw [a3, a4, e1]
  by_cases k2 : (y.2.drop 8).length < 8
  · exact dE6_of4 (by unfold dE4; rw [l3, l4]; exact takeE_lt _ _ k2) (by omega)
  obtain ⟨g1, g2, g3⟩ := takeE_ge (y.2.drop 8) 8 (by omega)
  have m3 : dL4 s = (y.2.drop 8).drop 8 := by unfold dL4; rw [l3, l4, g2]
  have m4 : dE4 s = 0 := by unfold dE4; rw [l3, l4, g1]
  refine dE6_of5 ?_ (by omega)
  have hnil : (y.2.drop 8).drop 8 = [] := List.eq_nil_of_length_eq_zero (by simp at k2 ⊢; omega)
  unfold dE5
  rw [m3, m4, hnil]
  exact flag_cut
theorem dec_parts {s : List UInt8} {x y : List UInt8 × List UInt8} (h1 : shortM s = some x) (h2 : shortM x.2 = some y) (h3 : 17 ≤ y.2.length) :
    dR s = x.1 ∧ dC s = y.1 ∧ dT s = lowV (y.2.take 8) ∧ dS s = lowV ((y.2.drop 8).take 8) ∧ dL4 s = y.2[16] :: y.2.drop 17 ∧ dE4 s = 0 := by
  obtain ⟨a1, a2, a3, a4⟩ := two_parts h1 h2
  obtain ⟨e1, e2, e3⟩ := takeE_ge y.2 8 (by omega)
  obtain ⟨g1, g2, g3⟩ := takeE_ge (y.2.drop 8) 8 (by simp; omega)
  have l3 : dL3 s = y.2.drop 8 := by unfold dL3; rw [a3, a4, e2]
  have l4 : dE3 s = 0 := by unfold dE3; rw [a3, a4, e1]
  refine ⟨a1, a2, by unfold dT; rw [a3, a4, e3], by unfold dS; rw [l3, l4, g3], ?_, by unfold dE4; rw [l3, l4, g1]⟩
  unfold dL4
  rw [l3, l4, g2, List.drop_drop]
  exact List.drop_eq_getElem_cons (by omega)
theorem dec_D {s : List UInt8} {x y : List UInt8 × List UInt8} (h1 : shortM s = some x) (h2 : shortM x.2 = some y) (h3 : 17 ≤ y.2.length) (h4 : 1 < y.2[16].toNat) : dE6 s = 1 := by
  obtain ⟨-, -, -, -, a5, a6⟩ := dec_parts h1 h2 h3
  obtain ⟨t1, t2, t3⟩ := take1 y.2[16] (y.2.drop 17)
  refine dE6_of5 ?_ (by omega)
  unfold dE5 flagE
  rw [a5, a6, t3, if_pos h4]
theorem dec_flag {s : List UInt8} {x y : List UInt8 × List UInt8} (h1 : shortM s = some x) (h2 : shortM x.2 = some y) (h3 : 17 ≤ y.2.length) (h4 : ¬ 1 < y.2[16].toNat) :
    dD s = (y.2[16].toNat == 1) ∧ dL5 s = y.2.drop 17 ∧ dE5 s = 0 := by
  obtain ⟨-, -, -, -, a5, a6⟩ := dec_parts h1 h2 h3
  obtain ⟨t1, t2, t3⟩ := take1 y.2[16] (y.2.drop 17)
  refine ⟨?_, ?_, ?_⟩
  · unfold dD flagB; rw [a5, a6, t3]
  · unfold dL5; rw [a5, a6, t2]
  · unfold dE5 flagE; rw [a5, a6, t3, if_neg h4, t1]
theorem dec_E {s : List UInt8} {x y : List UInt8 × List UInt8} (h1 : shortM s = some x) (h2 : shortM x.2 = some y) (h3 : 17 ≤ y.2.length) (h4 : ¬ 1 < y.2[16].toNat) (h5 : shortM (y.2.drop 17) = none) : dE6 s = 10 := by
  obtain ⟨a1, a2, a3⟩ := dec_flag h1 h2 h3 h4
  unfold dE6
  rw [a2, a3]
  exact short_none h5
theorem dec_F {s : List UInt8} {x y z : List UInt8 × List UInt8} (h1 : shortM s = some x) (h2 : shortM x.2 = some y) (h3 : 17 ≤ y.2.length) (h4 : ¬ 1 < y.2[16].toNat) (h5 : shortM (y.2.drop 17) = some z) :
    dE6 s = 0 ∧ dCel s = ⟨x.1, y.1, lowV (y.2.take 8), lowV ((y.2.drop 8).take 8), y.2[16].toNat == 1, z.1⟩ ∧ dL6 s = z.2 := by
  obtain ⟨b1, b2, b3, b4, -, -⟩ := dec_parts h1 h2 h3
  obtain ⟨a1, a2, a3⟩ := dec_flag h1 h2 h3 h4
  obtain ⟨c1, c2, c3⟩ := short_text h5
  refine ⟨?_, ?_, ?_⟩
  · unfold dE6; rw [a2, a3, c3]
  · unfold dCel dV; rw [b1, b2, b3, b4, a1, a2, a3, c1]
  · unfold dL6; rw [a2, a3, c2]

/-- The frame of the reference's Decode: the result, and the cell. -/
structure Sq (w W : World) (c : Cel) : Prop where
  rs : Bk W w.heap.size 24 zeroCell
  cl : Bk W (w.heap.size + 1) 24 (cells c)
  od : Old w W
theorem Sq.old {w W W' : World} {c : Cel} (h : Sq w W c) (k : Old W W') : Sq w W' c := ⟨h.rs.old k, h.cl.old k, h.od.tr k⟩
theorem Sq.set_ {w W : World} {c c' : Cel} (h : Sq w W c) (o : Nat) (u : Value) (hc : (cells c).setIfInBounds o u = cells c') : Sq w (W.setCell ⟨w.heap.size + 1, o, none⟩ u) c' :=
  ⟨h.rs.far (by simp) _, by rw [← hc]; exact h.cl.set_ o u, h.od.st (by simp) _⟩

set_option maxRecDepth 100000 in
set_option maxHeartbeats 8000000 in
theorem rdecode_any (s : List UInt8) (w : World) (hs : s.length ≤ 1000) :
    Calls Try.prog 28 #[.string (B s)] w fun e w' => e = .returned (decV s) ∧ Old w w' := by
  go_enter Try.func28, Try.ntmps28
  go_wp2_with fail
  have h0 : Sq w ((w.alloc (.cells zeroCell 24)).alloc (.cells zeroCell 24)) ⟨[], [], 0, 0, false, []⟩ :=
    ⟨(new_bk _ _ _).alloc _, new_bk1 _ _ _ _, ((Old.re _).al _).al _⟩
  refine (rshort_any s _ hs).mono ?_
  rintro r w1 ⟨rfl, hb⟩
  have h1 := h0.old hb
  clear h0 hb
  cases hc : shortM s with
  | none =>
    have HV := Lib.hid (decV_err (dec_A hc) (by omega))
    rw [show shortV s = .tuple #[.string ⟨#[]⟩, .string ⟨#[]⟩, .bool false] by simp [shortV, hc]]
    clear hc
    obtain ⟨r0, r1, r2, r3, r4, r5⟩ := Sc.rz_ h1.rs
    have rf := h1.rs.fr
    go_wp2
    have hB := put6 h1.rs (.string ⟨#[]⟩) (.string ⟨#[]⟩) (.int .u64 0) (.int .u64 0) (.bool false) (.string ⟨#[]⟩)
    have hO := old6 h1.od (.string ⟨#[]⟩) (.string ⟨#[]⟩) (.int .u64 0) (.int .u64 0) (.bool false) (.string ⟨#[]⟩)
    rw [HV.out]
    generalize ((((((w1.setCell ⟨w.heap.size, 0, none⟩ (.string ⟨#[]⟩)).setCell ⟨w.heap.size, 1, none⟩ (.string ⟨#[]⟩)).setCell ⟨w.heap.size, 2, none⟩ (.int .u64 0)).setCell ⟨w.heap.size, 3, none⟩ (.int .u64 0)).setCell ⟨w.heap.size, 4, none⟩ (.bool false)).setCell ⟨w.heap.size, 5, none⟩ (.string ⟨#[]⟩)) = w15 at *
    obtain ⟨z0, z1, z2, z3, z4, z5⟩ := Bk.six hB
    exact bodyPost_ret (v := .tuple #[.agg zeroCell, .string ⟨#[]⟩, .int .i64 10]) (by simp [results, Try.results28, go_sem, z0, z1, z2, z3, z4, z5]) rfl ⟨rfl, hO⟩
  | some x =>
    have hx := short_le hc
    rw [show shortV s = .tuple #[.string (B x.1), .string (B x.2), .bool true] by simp [shortV, hc]]
    have HC := Lib.hid hc
    clear hc
    go_wp2_with fail
    refine (rshort_any x.2 _ (by omega)).mono ?_
    rintro r w2 ⟨rfl, hb⟩
    have h2 := h1.old hb
    clear h1 hb
    cases hc2 : shortM x.2 with
    | none =>
      have HV := Lib.hid (decV_err (dec_B HC.out hc2) (by omega))
      rw [show shortV x.2 = .tuple #[.string ⟨#[]⟩, .string ⟨#[]⟩, .bool false] by simp [shortV, hc2]]
      clear hc2
      obtain ⟨r0, r1, r2, r3, r4, r5⟩ := Sc.rz_ h2.rs
      have rf := h2.rs.fr
      go_wp2
      have hB := put6 h2.rs (.string ⟨#[]⟩) (.string ⟨#[]⟩) (.int .u64 0) (.int .u64 0) (.bool false) (.string ⟨#[]⟩)
      have hO := old6 h2.od (.string ⟨#[]⟩) (.string ⟨#[]⟩) (.int .u64 0) (.int .u64 0) (.bool false) (.string ⟨#[]⟩)
      rw [HV.out]
      generalize ((((((w2.setCell ⟨w.heap.size, 0, none⟩ (.string ⟨#[]⟩)).setCell ⟨w.heap.size, 1, none⟩ (.string ⟨#[]⟩)).setCell ⟨w.heap.size, 2, none⟩ (.int .u64 0)).setCell ⟨w.heap.size, 3, none⟩ (.int .u64 0)).setCell ⟨w.heap.size, 4, none⟩ (.bool false)).setCell ⟨w.heap.size, 5, none⟩ (.string ⟨#[]⟩)) = w15 at *
      obtain ⟨z0, z1, z2, z3, z4, z5⟩ := Bk.six hB
      exact bodyPost_ret (v := .tuple #[.agg zeroCell, .string ⟨#[]⟩, .int .i64 10]) (by simp [results, Try.results28, go_sem, z0, z1, z2, z3, z4, z5]) rfl ⟨rfl, hO⟩
    | some y =>
      have hy := short_le hc2
      rw [show shortV x.2 = .tuple #[.string (B y.1), .string (B y.2), .bool true] by simp [shortV, hc2]]
      have HC2 := Lib.hid hc2
      clear hc2
      by_cases h17 : y.2.length < 17
      · have HV := Lib.hid (decV_err (dec_C HC.out HC2.out h17) (by omega))
        have hI : decide ((y.2.length : Int) < 17) = true := by simp; omega
        obtain ⟨r0, r1, r2, r3, r4, r5⟩ := Sc.rz_ h2.rs
        have rf := h2.rs.fr
        go_wp2
        have hB := put6 h2.rs (.string ⟨#[]⟩) (.string ⟨#[]⟩) (.int .u64 0) (.int .u64 0) (.bool false) (.string ⟨#[]⟩)
        have hO := old6 h2.od (.string ⟨#[]⟩) (.string ⟨#[]⟩) (.int .u64 0) (.int .u64 0) (.bool false) (.string ⟨#[]⟩)
        rw [HV.out]
        generalize ((((((w2.setCell ⟨w.heap.size, 0, none⟩ (.string ⟨#[]⟩)).setCell ⟨w.heap.size, 1, none⟩ (.string ⟨#[]⟩)).setCell ⟨w.heap.size, 2, none⟩ (.int .u64 0)).setCell ⟨w.heap.size, 3, none⟩ (.int .u64 0)).setCell ⟨w.heap.size, 4, none⟩ (.bool false)).setCell ⟨w.heap.size, 5, none⟩ (.string ⟨#[]⟩)) = w15 at *
        obtain ⟨z0, z1, z2, z3, z4, z5⟩ := Bk.six hB
        exact bodyPost_ret (v := .tuple #[.agg zeroCell, .string ⟨#[]⟩, .int .i64 10]) (by simp [results, Try.results28, go_sem, z0, z1, z2, z3, z4, z5]) rfl ⟨rfl, hO⟩
      · have hge : 17 ≤ y.2.length := by omega
        have hI : decide ((y.2.length : Int) < 17) = false := by simp; omega
        obtain ⟨f0, f1, f2, f3, f4, f5⟩ := h2.cl.six
        have ff := h2.cl.fr
        go_upto_region 10 with (fail)
        have h3 : Sq w ((w2.setCell ⟨w.heap.size + 1, 0, none⟩ (.string (B x.1))).setCell ⟨w.heap.size + 1, 1, none⟩ (.string (B y.1))) ⟨x.1, y.1, 0, 0, false, []⟩ :=
          (h2.set_ (c' := ⟨x.1, [], 0, 0, false, []⟩) 0 (.string (B x.1)) rfl).set_ 1 (.string (B y.1)) rfl
        generalize (w2.setCell ⟨w.heap.size + 1, 0, none⟩ (.string (B x.1))).setCell ⟨w.heap.size + 1, 1, none⟩ (.string (B y.1)) = w3 at *
        clear h2 f0 f1 f2 f3 f4 f5 ff hI
        obtain ⟨f0, f1, f2, f3, f4, f5⟩ := h3.cl.six
        have ff := h3.cl.fr
        go_wp2_with fail
        refine (rvalue_low y.2 _ (by omega) (by omega)).mono ?_
        rintro r w4 ⟨rfl, rfl⟩
        go_upto_region 11 with (fail)
        have h5 := h3.set_ (c' := ⟨x.1, y.1, lowV (y.2.take 8), 0, false, []⟩) 2 (.int .u64 (lowV (y.2.take 8) : Nat)) rfl
        generalize w3.setCell ⟨w.heap.size + 1, 2, none⟩ (.int .u64 (lowV (y.2.take 8) : Nat)) = w5 at *
        clear h3 f0 f1 f2 f3 f4 f5 ff
        obtain ⟨f0, f1, f2, f3, f4, f5⟩ := h5.cl.six
        have ff := h5.cl.fr
        go_wp2_with fail
        rw [ext_drop _ _ _ (Nat.le_refl _)]
        refine (rvalue_low (y.2.drop 8) _ (by simp; omega) (by simp; omega)).mono ?_
        rintro r w6 ⟨rfl, rfl⟩
        go_upto_region 12 with (fail)
        have h7 := h5.set_ (c' := ⟨x.1, y.1, lowV (y.2.take 8), lowV ((y.2.drop 8).take 8), false, []⟩) 3 (.int .u64 (lowV ((y.2.drop 8).take 8) : Nat)) rfl
        generalize w5.setCell ⟨w.heap.size + 1, 3, none⟩ (.int .u64 (lowV ((y.2.drop 8).take 8) : Nat)) = w7 at *
        clear h5 f0 f1 f2 f3 f4 f5 ff
        have hix : (B y.2)[16]'(by simp [ByteArray.size]; omega) = y.2[16] := rfl
        by_cases hd : 1 < y.2[16].toNat
        · have HV := Lib.hid (decV_err (dec_D HC.out HC2.out hge hd) (by omega))
          have hI : decide ((1 : Int) < (y.2[16].toNat : Int)) = true := by simp; omega
          generalize y.2[16] = q at *
          obtain ⟨r0, r1, r2, r3, r4, r5⟩ := Sc.rz_ h7.rs
          have rf := h7.rs.fr
          go_wp2
          have hB := put6 h7.rs (.string ⟨#[]⟩) (.string ⟨#[]⟩) (.int .u64 0) (.int .u64 0) (.bool false) (.string ⟨#[]⟩)
          have hO := old6 h7.od (.string ⟨#[]⟩) (.string ⟨#[]⟩) (.int .u64 0) (.int .u64 0) (.bool false) (.string ⟨#[]⟩)
          rw [HV.out]
          generalize ((((((w7.setCell ⟨w.heap.size, 0, none⟩ (.string ⟨#[]⟩)).setCell ⟨w.heap.size, 1, none⟩ (.string ⟨#[]⟩)).setCell ⟨w.heap.size, 2, none⟩ (.int .u64 0)).setCell ⟨w.heap.size, 3, none⟩ (.int .u64 0)).setCell ⟨w.heap.size, 4, none⟩ (.bool false)).setCell ⟨w.heap.size, 5, none⟩ (.string ⟨#[]⟩)) = w15 at *
          obtain ⟨z0, z1, z2, z3, z4, z5⟩ := Bk.six hB
          exact bodyPost_ret (v := .tuple #[.agg zeroCell, .string ⟨#[]⟩, .int .i64 1]) (by simp [results, Try.results28, go_sem, z0, z1, z2, z3, z4, z5]) rfl ⟨rfl, hO⟩
        · have hI : decide ((1 : Int) < (y.2[16].toNat : Int)) = false := by simp; omega
          have HE := Lib.hid (fun h5 => dec_E HC.out HC2.out hge hd h5)
          have HF := Lib.hid (fun z h5 => dec_F (z := z) HC.out HC2.out hge hd h5)
          generalize hq : y.2[16] = q at *
          clear hq
          have hbq : ((q.toNat : Int) == 1) = (q.toNat == 1) := by rw [Bool.eq_iff_iff, beq_iff_eq, beq_iff_eq]; omega
          obtain ⟨f0, f1, f2, f3, f4, f5⟩ := h7.cl.six
          have ff := h7.cl.fr
          go_upto_region 15 with (fail)
          have h8 := h7.set_ (c' := ⟨x.1, y.1, lowV (y.2.take 8), lowV ((y.2.drop 8).take 8), q.toNat == 1, []⟩) 4 (.bool (q.toNat == 1)) rfl
          generalize w7.setCell ⟨w.heap.size + 1, 4, none⟩ (.bool (q.toNat == 1)) = w8 at *
          clear h7 f0 f1 f2 f3 f4 f5 ff hI hbq hix
          go_wp2_with fail
          rw [ext_drop _ _ _ (Nat.le_refl _)]
          refine (rshort_any (y.2.drop 17) _ (by simp; omega)).mono ?_
          rintro r w9 ⟨rfl, hb⟩
          have h9 := h8.old hb
          clear h8 hb
          cases hc3 : shortM (y.2.drop 17) with
          | none =>
            have HV := Lib.hid (decV_err (HE.out hc3) (by omega))
            rw [show shortV (y.2.drop 17) = .tuple #[.string ⟨#[]⟩, .string ⟨#[]⟩, .bool false] by simp [shortV, hc3]]
            clear hc3
            obtain ⟨r0, r1, r2, r3, r4, r5⟩ := Sc.rz_ h9.rs
            have rf := h9.rs.fr
            go_wp2
            have hB := put6 h9.rs (.string ⟨#[]⟩) (.string ⟨#[]⟩) (.int .u64 0) (.int .u64 0) (.bool false) (.string ⟨#[]⟩)
            have hO := old6 h9.od (.string ⟨#[]⟩) (.string ⟨#[]⟩) (.int .u64 0) (.int .u64 0) (.bool false) (.string ⟨#[]⟩)
            rw [HV.out]
            generalize ((((((w9.setCell ⟨w.heap.size, 0, none⟩ (.string ⟨#[]⟩)).setCell ⟨w.heap.size, 1, none⟩ (.string ⟨#[]⟩)).setCell ⟨w.heap.size, 2, none⟩ (.int .u64 0)).setCell ⟨w.heap.size, 3, none⟩ (.int .u64 0)).setCell ⟨w.heap.size, 4, none⟩ (.bool false)).setCell ⟨w.heap.size, 5, none⟩ (.string ⟨#[]⟩)) = w15 at *
            obtain ⟨z0, z1, z2, z3, z4, z5⟩ := Bk.six hB
            exact bodyPost_ret (v := .tuple #[.agg zeroCell, .string ⟨#[]⟩, .int .i64 10]) (by simp [results, Try.results28, go_sem, z0, z1, z2, z3, z4, z5]) rfl ⟨rfl, hO⟩
          | some z =>
            obtain ⟨g1, g2, g3⟩ := HF.out z hc3
            rw [show shortV (y.2.drop 17) = .tuple #[.string (B z.1), .string (B z.2), .bool true] by simp [shortV, hc3]]
            clear hc3
            have G1 := Lib.hid g1
            have G3 := Lib.hid g3
            obtain ⟨f0, f1, f2, f3, f4, f5⟩ := h9.cl.six
            have ff := h9.cl.fr
            clear g1 g3
            have G2 := Lib.hid g2
            clear g2
            go_upto_region 19 with (fail)
            have h10 : Sq w (w9.setCell ⟨w.heap.size + 1, 5, none⟩ (.string (B z.1))) (dCel s) := by rw [G2.out]; exact h9.set_ 5 (.string (B z.1)) rfl
            generalize w9.setCell ⟨w.heap.size + 1, 5, none⟩ (.string (B z.1)) = w10 at *
            clear h9 f0 f1 f2 f3 f4 f5 ff
            have HW := Lib.hid (show decV s = if mayB (dCel s) = true then .tuple #[cv (dCel s), .string (B z.2), .int .i64 0] else .tuple #[.agg zeroCell, .string ⟨#[]⟩, .int .i64 1] by simp only [decV, G1.out, if_true, G3.out])
            clear G1 G2 G3
            generalize dCel s = c at *
            obtain ⟨f0, f1, f2, f3, f4, f5⟩ := h10.cl.six
            go_wp2_with fail
            refine (rmay_any c _).mono ?_
            rintro r w11 ⟨rfl, hb⟩
            have h11 := h10.old hb
            clear h10 hb f0 f1 f2 f3 f4 f5
            obtain ⟨f0, f1, f2, f3, f4, f5⟩ := h11.cl.six
            cases hm : mayB c
            · have HV := Lib.hid (HW.out.trans (if_neg (by simp [hm])))
              obtain ⟨r0, r1, r2, r3, r4, r5⟩ := Sc.rz_ h11.rs
              have rf := h11.rs.fr
              go_wp2
              have hB := put6 h11.rs (.string ⟨#[]⟩) (.string ⟨#[]⟩) (.int .u64 0) (.int .u64 0) (.bool false) (.string ⟨#[]⟩)
              have hO := old6 h11.od (.string ⟨#[]⟩) (.string ⟨#[]⟩) (.int .u64 0) (.int .u64 0) (.bool false) (.string ⟨#[]⟩)
              rw [HV.out]
              generalize ((((((w11.setCell ⟨w.heap.size, 0, none⟩ (.string ⟨#[]⟩)).setCell ⟨w.heap.size, 1, none⟩ (.string ⟨#[]⟩)).setCell ⟨w.heap.size, 2, none⟩ (.int .u64 0)).setCell ⟨w.heap.size, 3, none⟩ (.int .u64 0)).setCell ⟨w.heap.size, 4, none⟩ (.bool false)).setCell ⟨w.heap.size, 5, none⟩ (.string ⟨#[]⟩)) = w15 at *
              obtain ⟨z0, z1, z2, z3, z4, z5⟩ := Bk.six hB
              exact bodyPost_ret (v := .tuple #[.agg zeroCell, .string ⟨#[]⟩, .int .i64 1]) (by simp [results, Try.results28, go_sem, z0, z1, z2, z3, z4, z5]) rfl ⟨rfl, hO⟩
            · have HV := Lib.hid (HW.out.trans (if_pos hm))
              obtain ⟨r0, r1, r2, r3, r4, r5⟩ := Sc.rz_ h11.rs
              have rf := h11.rs.fr
              go_wp2
              have hB := put6 h11.rs (.string (B c.row)) (.string (B c.col)) (.int .u64 c.ts) (.int .u64 c.seq) (.bool c.del) (.string (B c.val))
              have hO := old6 h11.od (.string (B c.row)) (.string (B c.col)) (.int .u64 c.ts) (.int .u64 c.seq) (.bool c.del) (.string (B c.val))
              rw [HV.out]
              generalize ((((((w11.setCell ⟨w.heap.size, 0, none⟩ (.string (B c.row))).setCell ⟨w.heap.size, 1, none⟩ (.string (B c.col))).setCell ⟨w.heap.size, 2, none⟩ (.int .u64 c.ts)).setCell ⟨w.heap.size, 3, none⟩ (.int .u64 c.seq)).setCell ⟨w.heap.size, 4, none⟩ (.bool c.del)).setCell ⟨w.heap.size, 5, none⟩ (.string (B c.val))) = w15 at *
              obtain ⟨z0, z1, z2, z3, z4, z5⟩ := Bk.six hB
              exact bodyPost_ret (v := .tuple #[cv c, .string (B z.2), .int .i64 0]) (by simp [results, Try.results28, go_sem, z0, z1, z2, z3, z4, z5]) rfl ⟨rfl, hO⟩
end Go.Proofs.Ythdpiagnjakjiaa
