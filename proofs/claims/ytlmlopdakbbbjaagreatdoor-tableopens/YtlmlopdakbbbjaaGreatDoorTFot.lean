/-
  The foot that a text ends with: footOf of table. Conditions: the table is laid; lengths as written.
-/
import Derived.Test.YtlmlopdakbbbjaaGreatDoorTBld
namespace Go.Proofs.YtlmlopdakbbbjaaGreatDoor
open Go.RowKit

/-- What footOf answers. -/
def footE (s : List UInt8) : Int := if s.length < 26 ∨ (footB s).2.2 ≠ 0 then 20 else if (footB s).2.1 < 26 then 50 else 0
def footV (s : List UInt8) : Value := if footE s = 0 then .tuple #[.agg #[.int .u64 (fA s), .int .u64 (fB s), .int .u64 (fC s), .int .u64 (fS s)], .int .i64 0] else .tuple #[.agg #[.int .u64 0, .int .u64 0, .int .u64 0, .int .u64 0], .int .i64 (footE s)]
theorem footB_text {s : List UInt8} (h26 : 26 ≤ s.length) (h0 : (footB s).2.2 = 0) (hn : 26 ≤ (footB s).2.1) : (footB s).1.length = 20 := by
  have h := getV_ok (l := s.drop (s.length - 26)) h0
  have h2 : (s.drop (s.length - 26)).length = 26 := by simp; omega
  rw [h2] at h
  unfold footB at *
  omega

theorem put4 {W : World} {g : Nat} {t : TypeId} {v0 v1 v2 v3 : Value} (h : Bk W g t #[v0, v1, v2, v3]) (u0 u1 u2 u3 : Value) :
    Bk ((((W.setCell ⟨g, 0, none⟩ u0).setCell ⟨g, 1, none⟩ u1).setCell ⟨g, 2, none⟩ u2).setCell ⟨g, 3, none⟩ u3) g t #[u0, u1, u2, u3] :=
  ((((h.set_ 0 _).set_ 1 _).set_ 2 _).set_ 3 _)
theorem old4 {w W : World} {g : Nat} (h : Old w W) (hg : w.heap.size ≤ g) (u0 u1 u2 u3 : Value) :
    Old w ((((W.setCell ⟨g, 0, none⟩ u0).setCell ⟨g, 1, none⟩ u1).setCell ⟨g, 2, none⟩ u2).setCell ⟨g, 3, none⟩ u3) :=
  ((((h.st hg _).st hg _).st hg _).st hg _)
theorem Bk.four {W : World} {g : Nat} {t : TypeId} {u0 u1 u2 u3 : Value} (h : Bk W g t #[u0, u1, u2, u3]) :
    W.cell? ⟨g, 0, none⟩ = some u0 ∧ W.cell? ⟨g, 1, none⟩ = some u1 ∧ W.cell? ⟨g, 2, none⟩ = some u2 ∧ W.cell? ⟨g, 3, none⟩ = some u3 := by
  refine ⟨?_, ?_, ?_, ?_⟩ <;> (rw [h.cell]; rfl)
theorem Bk.three {W : World} {g : Nat} {t : TypeId} {u0 u1 u2 : Value} (h : Bk W g t #[u0, u1, u2]) :
    W.cell? ⟨g, 0, none⟩ = some u0 ∧ W.cell? ⟨g, 1, none⟩ = some u1 ∧ W.cell? ⟨g, 2, none⟩ = some u2 := by
  refine ⟨?_, ?_, ?_⟩ <;> (rw [h.cell]; rfl)

set_option maxRecDepth 100000 in
set_option maxHeartbeats 8000000 in
theorem footOf_any (s : List UInt8) (hs : s.length ≤ 1000000) (w : World) (ht : Tab w) :
    Calls Tryz.prog 33 #[.string (B s)] w fun e w' => e = .returned (footV s) ∧ Old w w' := by
  by_cases h1 : s.length < 26
  · have d1 : decide ((s.length : Int) < 26) = true := by simp; omega
    have HV := Lib.hid (show footV s = .tuple #[.agg #[.int .u64 0, .int .u64 0, .int .u64 0, .int .u64 0], .int .i64 20] by
      have : footE s = 20 := by unfold footE; rw [if_pos (.inl h1)]
      unfold footV; rw [this]; rfl)
    have hB := new_bk w 52 #[.int .u64 0, .int .u64 0, .int .u64 0, .int .u64 0]
    go_enter Tryz.func33, Tryz.ntmps33
    go_wp2
    exact bodyPost_ret (v := .tuple #[.agg #[.int .u64 0, .int .u64 0, .int .u64 0, .int .u64 0], .int .i64 20]) (by simp [results, Tryz.results33, go_sem]) rfl ⟨by rw [HV.out], old_alloc _ _⟩
  have h26 : 26 ≤ s.length := by omega
  have d1 : decide ((s.length : Int) < 26) = false := by simp; omega
  have xt : (B s).extract (s.length - 26) s.length = B (s.drop (s.length - 26)) := ext_drop _ _ _ (Nat.le_refl _)
  have hxl : (s.drop (s.length - 26)).length ≤ 1000000 := by simp; omega
  obtain ⟨t, n, e, hg⟩ : ∃ t n e, footB s = (t, n, e) := ⟨_, _, _, rfl⟩
  have HG := Lib.hid (getR_of (l := s.drop (s.length - 26)) hg)
  have HT := Lib.hid (footB_text (s := s) h26)
  have HE := Lib.hid (show footE s = if e ≠ 0 then 20 else if n < 26 then 50 else 0 by
    unfold footE; rw [hg]; simp only
    by_cases he : e ≠ 0
    · rw [if_pos (.inr he), if_pos he]
    · rw [if_neg (by omega), if_neg he])
  have HF := Lib.hid (show fA s = lowV (t.take 4) ∧ fB s = lowV ((t.drop 4).take 4) ∧ fC s = lowV ((t.drop 8).take 4) ∧ fS s = lowV (t.drop 12) by unfold fA fB fC fS; rw [hg]; exact ⟨rfl, rfl, rfl, rfl⟩)
  rw [hg] at HT
  clear hg
  have hB := new_bk w 52 #[.int .u64 0, .int .u64 0, .int .u64 0, .int .u64 0]
  have o1 := old_alloc w (.cells #[.int .u64 0, .int .u64 0, .int .u64 0, .int .u64 0] 52)
  go_enter Tryz.func33, Tryz.ntmps33
  go_wp2_with fail
  generalize w.alloc (.cells #[.int .u64 0, .int .u64 0, .int .u64 0, .int .u64 0] 52) = w1 at *
  refine (get_any (s.drop (s.length - 26)) hxl _ (ht.old o1)).mono ?_
  rintro e' w2 ⟨rfl, k2⟩
  rw [HG.out]
  have o2 := o1.tr k2.old
  have hB2 := hB.old k2.old
  clear k2 hB o1 xt hxl
  obtain ⟨z0, z1, z2, z3⟩ := hB2.four
  have f2 := hB2.fr
  by_cases he : e = 0
  case neg =>
    have de : ((e : Int) != 0) = true := by rw [bne_iff_ne]; omega
    have HV := Lib.hid (show footV s = .tuple #[.agg #[.int .u64 0, .int .u64 0, .int .u64 0, .int .u64 0], .int .i64 20] by
      have : footE s = 20 := by rw [HE.out, if_pos he]
      unfold footV; rw [this]; rfl)
    go_wp2
    have hB3 := put4 hB2 (.int .u64 0) (.int .u64 0) (.int .u64 0) (.int .u64 0)
    have o3 := old4 o2 (Nat.le_refl _) (.int .u64 0) (.int .u64 0) (.int .u64 0) (.int .u64 0)
    clear z0 z1 z2 z3 f2 hB2
    generalize ((((w2.setCell ⟨w.heap.size, 0, none⟩ (.int .u64 0)).setCell ⟨w.heap.size, 1, none⟩ (.int .u64 0)).setCell ⟨w.heap.size, 2, none⟩ (.int .u64 0)).setCell ⟨w.heap.size, 3, none⟩ (.int .u64 0)) = W3 at *
    obtain ⟨c0, c1, c2, c3⟩ := hB3.four
    exact bodyPost_ret (v := .tuple #[.agg #[.int .u64 0, .int .u64 0, .int .u64 0, .int .u64 0], .int .i64 20]) (by simp [results, Tryz.results33, go_sem, c0, c1, c2, c3]) rfl ⟨by rw [HV.out], o3⟩
  subst he
  by_cases hn : n < 26
  · have dn : decide ((n : Int) < 26) = true := by simp; omega
    have HV := Lib.hid (show footV s = .tuple #[.agg #[.int .u64 0, .int .u64 0, .int .u64 0, .int .u64 0], .int .i64 50] by
      have : footE s = 50 := by rw [HE.out, if_neg (by omega), if_pos hn]
      unfold footV; rw [this]; rfl)
    go_wp2
    have hB3 := put4 hB2 (.int .u64 0) (.int .u64 0) (.int .u64 0) (.int .u64 0)
    have o3 := old4 o2 (Nat.le_refl _) (.int .u64 0) (.int .u64 0) (.int .u64 0) (.int .u64 0)
    clear z0 z1 z2 z3 f2 hB2
    generalize ((((w2.setCell ⟨w.heap.size, 0, none⟩ (.int .u64 0)).setCell ⟨w.heap.size, 1, none⟩ (.int .u64 0)).setCell ⟨w.heap.size, 2, none⟩ (.int .u64 0)).setCell ⟨w.heap.size, 3, none⟩ (.int .u64 0)) = W3 at *
    obtain ⟨c0, c1, c2, c3⟩ := hB3.four
    exact bodyPost_ret (v := .tuple #[.agg #[.int .u64 0, .int .u64 0, .int .u64 0, .int .u64 0], .int .i64 50]) (by simp [results, Tryz.results33, go_sem, c0, c1, c2, c3]) rfl ⟨by rw [HV.out], o3⟩
  have dn : decide ((n : Int) < 26) = false := by simp; omega
  have hl : t.length = 20 := HT.out rfl (by show 26 ≤ n; omega)
  have HV := Lib.hid (show footV s = .tuple #[.agg #[.int .u64 (lowV (t.take 4)), .int .u64 (lowV ((t.drop 4).take 4)), .int .u64 (lowV ((t.drop 8).take 4)), .int .u64 (lowV (t.drop 12))], .int .i64 0] by
      have : footE s = 0 := by rw [HE.out, if_neg (by omega), if_neg hn]
      obtain ⟨e1, e2, e3, e4⟩ := HF.out
      unfold footV; rw [this, e1, e2, e3, e4]; rfl)
  clear HE HF HT HG h1 hn
  have l1 : (t.drop 4).length = 16 := by simp; omega
  have l2 : (t.drop 8).length = 12 := by simp; omega
  have l3 : (t.drop 12).length = 8 := by simp; omega
  have q1 : (t.drop 4).drop 4 = t.drop 8 := by rw [List.drop_drop]
  have q2 : (t.drop 8).drop 4 = t.drop 12 := by rw [List.drop_drop]
  have x0 : (B t).extract 0 4 = B (t.take 4) := ext_take _ _
  have y0 : (B t).extract 4 20 = B (t.drop 4) := ext_drop _ _ _ (by omega)
  have x1 : (B (t.drop 4)).extract 0 4 = B ((t.drop 4).take 4) := ext_take _ _
  have y1 : (B (t.drop 4)).extract 4 16 = B (t.drop 8) := by rw [ext_drop _ _ _ (by omega), q1]
  have x2 : (B (t.drop 8)).extract 0 4 = B ((t.drop 8).take 4) := ext_take _ _
  have y2 : (B (t.drop 8)).extract 4 12 = B (t.drop 12) := by rw [ext_drop _ _ _ (by omega), q2]
  have n0 : (t.take 4).length ≤ 8 := by simp; omega
  have n1 : ((t.drop 4).take 4).length ≤ 8 := by simp; omega
  have n2 : ((t.drop 8).take 4).length ≤ 8 := by simp; omega
  clear q1 q2 z0 z1 z2 z3 f2
  generalize t.take 4 = ta at *
  generalize (t.drop 4).take 4 = tb at *
  generalize (t.drop 8).take 4 = tc at *
  generalize t.drop 4 = t4 at *
  generalize t.drop 8 = t8 at *
  generalize t.drop 12 = t12 at *
  have hA := new_bk w2 95 #[.int .u64 0, .int .u64 0, .int .u64 0]
  have o3 := o2.al (.cells #[.int .u64 0, .int .u64 0, .int .u64 0] 95)
  have hB3 := hB2.alloc (.cells #[.int .u64 0, .int .u64 0, .int .u64 0] 95)
  have hlt := hB2.lt
  have hsz := o2.size
  go_wp2_with fail
  generalize w2.alloc (.cells #[.int .u64 0, .int .u64 0, .int .u64 0] 95) = w3 at *
  generalize w2.heap.size = g at *
  clear hB2 o2
  refine wp_loop_rounds 4 ?_
  rw [rounds_succ]
  obtain ⟨c0, c1, c2⟩ := hA.three
  have f0 := hA.fr
  go_upto_region 12 with (fail)
  go_region_held_law (fun _ => True) (trivial)
    ((go_at_call 64; refine (tnumber_any ta _ n0).mono ?_; rintro e w' ⟨rfl, rfl⟩))
  have hA4 : Bk (w3.setCell ⟨g, 0, none⟩ (.int .u64 (lowV ta : Nat))).drew g 95 #[.int .u64 (lowV ta : Nat), .int .u64 0, .int .u64 0] := (hA.set_ 0 _).drew
  have hB4 : Bk (w3.setCell ⟨g, 0, none⟩ (.int .u64 (lowV ta : Nat))).drew w.heap.size 52 #[.int .u64 0, .int .u64 0, .int .u64 0, .int .u64 0] := (hB3.far (by show w.heap.size ≠ g; omega) _).drew
  have o4 : Old w (w3.setCell ⟨g, 0, none⟩ (.int .u64 (lowV ta : Nat))).drew := (o3.st hsz _).dr
  generalize (w3.setCell ⟨g, 0, none⟩ (.int .u64 (lowV ta : Nat))).drew = w4 at *
  clear hA hB3 o3 c0 c1 c2 f0
  go_wp2_with fail
  rw [rounds_succ]
  obtain ⟨c0, c1, c2⟩ := hA4.three
  have f0 := hA4.fr
  go_upto_region 12 with (fail)
  go_region_held_law (fun _ => True) (trivial)
    ((go_at_call 64; refine (tnumber_any tb _ n1).mono ?_; rintro e w' ⟨rfl, rfl⟩))
  have hA5 : Bk (w4.setCell ⟨g, 1, none⟩ (.int .u64 (lowV tb : Nat))).drew g 95 #[.int .u64 (lowV ta : Nat), .int .u64 (lowV tb : Nat), .int .u64 0] := (hA4.set_ 1 _).drew
  have hB5 : Bk (w4.setCell ⟨g, 1, none⟩ (.int .u64 (lowV tb : Nat))).drew w.heap.size 52 #[.int .u64 0, .int .u64 0, .int .u64 0, .int .u64 0] := (hB4.far (by show w.heap.size ≠ g; omega) _).drew
  have o5 : Old w (w4.setCell ⟨g, 1, none⟩ (.int .u64 (lowV tb : Nat))).drew := (o4.st hsz _).dr
  generalize (w4.setCell ⟨g, 1, none⟩ (.int .u64 (lowV tb : Nat))).drew = w5 at *
  clear hA4 hB4 o4 c0 c1 c2 f0
  go_wp2_with fail
  rw [rounds_succ]
  obtain ⟨c0, c1, c2⟩ := hA5.three
  have f0 := hA5.fr
  go_upto_region 12 with (fail)
  go_region_held_law (fun _ => True) (trivial)
    ((go_at_call 64; refine (tnumber_any tc _ n2).mono ?_; rintro e w' ⟨rfl, rfl⟩))
  have hA6 : Bk (w5.setCell ⟨g, 2, none⟩ (.int .u64 (lowV tc : Nat))).drew g 95 #[.int .u64 (lowV ta : Nat), .int .u64 (lowV tb : Nat), .int .u64 (lowV tc : Nat)] := (hA5.set_ 2 _).drew
  have hB6 : Bk (w5.setCell ⟨g, 2, none⟩ (.int .u64 (lowV tc : Nat))).drew w.heap.size 52 #[.int .u64 0, .int .u64 0, .int .u64 0, .int .u64 0] := (hB5.far (by show w.heap.size ≠ g; omega) _).drew
  have o6 : Old w (w5.setCell ⟨g, 2, none⟩ (.int .u64 (lowV tc : Nat))).drew := (o5.st hsz _).dr
  generalize (w5.setCell ⟨g, 2, none⟩ (.int .u64 (lowV tc : Nat))).drew = w6 at *
  clear hA5 hB5 o5 c0 c1 c2 f0
  go_wp2_with fail
  rw [rounds_succ]
  obtain ⟨c0, c1, c2⟩ := hA6.three
  have z4 := hB6.four
  obtain ⟨z0, z1, z2, z3⟩ := z4
  have f6 := hB6.fr
  have hne : g ≠ w.heap.size := by omega
  go_upto_region 14 with (fail)
  go_region_held_law (fun W => W.cell? ⟨g, 0, none⟩ = some (.int .u64 (lowV ta : Nat)) ∧ W.cell? ⟨g, 1, none⟩ = some (.int .u64 (lowV tb : Nat)) ∧ W.cell? ⟨g, 2, none⟩ = some (.int .u64 (lowV tc : Nat))) (first | with_reducible exact ⟨c0, c1, c2⟩ | exact ⟨c0, c1, c2⟩ | exact (Bk.three ((((hA6.far hne _).far hne _).far hne _).far hne _)))
    ((go_at_call 64; refine (tnumber_any t12 _ (by omega)).mono ?_; rintro e w' ⟨rfl, rfl⟩))
  have hB7 : Bk ((((w6.setCell ⟨w.heap.size, 0, none⟩ (.int .u64 (lowV ta : Nat))).setCell ⟨w.heap.size, 1, none⟩ (.int .u64 (lowV tb : Nat))).setCell ⟨w.heap.size, 2, none⟩ (.int .u64 (lowV tc : Nat))).setCell ⟨w.heap.size, 3, none⟩ (.int .u64 (lowV t12 : Nat))).drew w.heap.size 52 #[.int .u64 (lowV ta : Nat), .int .u64 (lowV tb : Nat), .int .u64 (lowV tc : Nat), .int .u64 (lowV t12 : Nat)] := (put4 hB6 _ _ _ _).drew
  have o7 : Old w ((((w6.setCell ⟨w.heap.size, 0, none⟩ (.int .u64 (lowV ta : Nat))).setCell ⟨w.heap.size, 1, none⟩ (.int .u64 (lowV tb : Nat))).setCell ⟨w.heap.size, 2, none⟩ (.int .u64 (lowV tc : Nat))).setCell ⟨w.heap.size, 3, none⟩ (.int .u64 (lowV t12 : Nat))).drew := (old4 o6 (Nat.le_refl _) _ _ _ _).dr
  generalize ((((w6.setCell ⟨w.heap.size, 0, none⟩ (.int .u64 (lowV ta : Nat))).setCell ⟨w.heap.size, 1, none⟩ (.int .u64 (lowV tb : Nat))).setCell ⟨w.heap.size, 2, none⟩ (.int .u64 (lowV tc : Nat))).setCell ⟨w.heap.size, 3, none⟩ (.int .u64 (lowV t12 : Nat))).drew = w7 at *
  clear hA6 hB6 o6 c0 c1 c2 z0 z1 z2 z3 f6
  go_wp2
  obtain ⟨c0, c1, c2, c3⟩ := hB7.four
  exact bodyPost_ret (v := .tuple #[.agg #[.int .u64 (lowV ta : Nat), .int .u64 (lowV tb : Nat), .int .u64 (lowV tc : Nat), .int .u64 (lowV t12 : Nat)], .int .i64 0]) (by simp [results, Tryz.results33, go_sem, c0, c1, c2, c3]) rfl ⟨by rw [HV.out], o7⟩
end Go.Proofs.YtlmlopdakbbbjaaGreatDoor
