/-
  Crash and done of the document's own disk. Conditions: the files lie in memory; lengths as written.
-/
import Derived.Test.YtilimfbjkgeciaaDoorRFF
import Derived.StillTailTactics
namespace Go.Proofs.YtilimfbjkgeciaaDoor
set_option maxRecDepth 100000
open Go.RowKit

theorem flatF_cons (f : Pf) (L : List Pf) : flatF (f :: L) = (pcl f).toList ++ flatF L := rfl
theorem flatF_set (L : List Pf) (i : Nat) (f : Pf) (r : List Value) (hi : i < L.length) : (flatF (L.set i f) ++ r).toArray = ((((flatF L ++ r).toArray.setIfInBounds (i * 3) (.string (B f.name))).setIfInBounds (i * 3 + 1) (.string (B f.s))).setIfInBounds (i * 3 + 2) (.int .i64 (f.n : Int))) := by
  simp only [List.setIfInBounds_toArray]
  congr 1
  induction L generalizing i with
  | nil => simp at hi
  | cons y L ih =>
    cases i with
    | zero => simp [flatF_cons]
    | succ i =>
      have hi' : i < L.length := by simpa using hi
      rw [List.set_cons_succ, flatF_cons, List.append_assoc, ih i hi', flatF_cons]
      simp only [List.cons_append, List.nil_append]
      rw [show (i + 1) * 3 = i * 3 + 1 + 1 + 1 by omega]
      simp [List.set_cons_succ]
theorem set_same {cs : Array Value} {i : Nat} {v : Value} (h : cs[i]? = some v) : cs.setIfInBounds i v = cs := by
  apply Array.ext_getElem?
  intro j
  rw [Array.getElem?_setIfInBounds]
  by_cases e : i = j
  · subst e
    rw [if_pos rfl, h]
    have := (Array.getElem?_eq_some_iff.1 h).1
    simp [this]
  · rw [if_neg e]
/-- An own slice of files, of which there is one at least. -/
theorem OwnF.form {w : World} {base n c : Nat} {A : Option Addr} {L : List Pf} (h : OwnF w base (.slice A n c) L) (hne : 0 < L.length) : ∃ g r, A = some ⟨g, 0, none⟩ ∧ n = L.length ∧ base ≤ g ∧ L.length ≤ c ∧ Bk w g 83 (flatF L ++ r).toArray ∧ c * 3 = L.length * 3 + r.length ∧ c ≤ maxLen := by
  rcases h.2 with ⟨h1, h2⟩ | ⟨g, cap, cur, hv, hb, hg, hnc, hcm, hcs, htake⟩
  · omega
  · injection hv with e1 e2 e3
    subst e1 e2 e3
    refine ⟨g, cur.toList.drop (L.length * 3), rfl, rfl, hb, hnc, ?_, ?_, by omega⟩
    · unfold Bk
      rw [← htake, List.take_append_drop]
      simpa using hg
    · simp; omega
theorem bkF_at {w : World} {g : Nat} {L : List Pf} {r : List Value} (h : Bk w g 83 (flatF L ++ r).toArray) {i : Nat} {x : Pf} (hx : L[i]? = some x) : F3 w g (i * 3) x := by
  have hi : i < L.length := (List.getElem?_eq_some_iff.1 hx).1
  have hl := flatF_len L
  have k : ∀ j, j < 3 → w.cell? ⟨g, i * 3 + j, none⟩ = (pcl x)[j]? := fun j hj => by
    rw [Bk.cell h, ← flatF_at L i j x hx hj, List.getElem?_toArray, List.getElem?_append_left (by omega)]
  exact ⟨k 0 (by omega), k 1 (by omega), k 2 (by omega)⟩
theorem ownF_mk {w : World} {base g cap : Nat} {L : List Pf} {r : List Value} (h : Bk w g 83 (flatF L ++ r).toArray) (hb : base ≤ g) (hc : L.length ≤ cap) (hr : cap * 3 = L.length * 3 + r.length) (hm : cap ≤ maxLen) : OwnF w base (.slice (some ⟨g, 0, none⟩) L.length cap) L :=
  ⟨flatF_len L, .inr ⟨g, cap, _, rfl, hb, h, hc, by omega, by simp [flatF_len]; omega, by simp [← flatF_len]⟩⟩
/-- A file's bytes, and how many are synced, are written. -/
theorem bkF_set {w : World} {g : Nat} {L : List Pf} {r : List Value} (h : Bk w g 83 (flatF L ++ r).toArray) {i : Nat} {x : Pf} (hx : L[i]? = some x) (s : List UInt8) : Bk (w.setCell ⟨g, i * 3 + 1, none⟩ (.string (B s))) g 83 (flatF (L.set i ⟨x.name, s, x.n⟩) ++ r).toArray := by
  have hi : i < L.length := (List.getElem?_eq_some_iff.1 hx).1
  have h1 := h.set_ (i * 3 + 1) (.string (B s))
  rw [flatF_set _ _ _ _ hi]
  have e0 : (flatF L ++ r).toArray.setIfInBounds (i * 3) (.string (B x.name)) = (flatF L ++ r).toArray := by
    have := (bkF_at h hx).a0
    rw [Bk.cell h] at this
    exact set_same this
  have e2 : ((flatF L ++ r).toArray.setIfInBounds (i * 3 + 1) (.string (B s))).setIfInBounds (i * 3 + 2) (.int .i64 (x.n : Int)) = (flatF L ++ r).toArray.setIfInBounds (i * 3 + 1) (.string (B s)) := by
    have := (bkF_at h hx).a2
    rw [Bk.cell h] at this
    refine set_same ?_
    rw [Array.getElem?_setIfInBounds_ne (by omega)]
    exact this
  rw [e0]
  show Bk _ g _ (((flatF L ++ r).toArray.setIfInBounds (i * 3 + 1) (.string (B s))).setIfInBounds (i * 3 + 2) (.int .i64 (x.n : Int)))
  rw [e2]
  exact h1
theorem bkF_setn {w : World} {g : Nat} {L : List Pf} {r : List Value} (h : Bk w g 83 (flatF L ++ r).toArray) {i : Nat} {x : Pf} (hx : L[i]? = some x) (n : Nat) : Bk (w.setCell ⟨g, i * 3 + 2, none⟩ (.int .i64 (n : Int))) g 83 (flatF (L.set i ⟨x.name, x.s, n⟩) ++ r).toArray := by
  have hi : i < L.length := (List.getElem?_eq_some_iff.1 hx).1
  have h1 := h.set_ (i * 3 + 2) (.int .i64 (n : Int))
  rw [flatF_set _ _ _ _ hi]
  have e0 : (flatF L ++ r).toArray.setIfInBounds (i * 3) (.string (B x.name)) = (flatF L ++ r).toArray := by
    have := (bkF_at h hx).a0
    rw [Bk.cell h] at this
    exact set_same this
  have e1 : (flatF L ++ r).toArray.setIfInBounds (i * 3 + 1) (.string (B x.s)) = (flatF L ++ r).toArray := by
    have := (bkF_at h hx).a1
    rw [Bk.cell h] at this
    exact set_same this
  rw [e0]
  show Bk _ g _ (((flatF L ++ r).toArray.setIfInBounds (i * 3 + 1) (.string (B x.s))).setIfInBounds (i * 3 + 2) (.int .i64 (n : Int)))
  rw [e1]
  exact h1

theorem OwnF.ne {w : World} {base : Nat} {v : Value} {L : List Pf} (h : OwnF w base v L) {g : Nat} {t : TypeId} {cs : Array Value} (b : Bk w g t cs) (ht : t ≠ 83) : v.ownBlock ≠ some g := by
  rcases h.2 with ⟨hv, _⟩ | ⟨gg, cap, cur, hv, _, hh, _⟩
  · rw [hv]; simp [Value.ownBlock]
  · rw [hv]
    intro e
    have e2 : gg = g := by simpa [Value.ownBlock] using e
    subst e2
    unfold Bk at b
    rw [b] at hh
    injection hh with hh
    injection hh with _ hh
    exact ht hh
theorem OwnF.setf {w : World} {base : Nat} {v : Value} {L : List Pf} (h : OwnF w base v L) {g : Nat} (hne : v.ownBlock ≠ some g) (o : Nat) (u : Value) : OwnF (w.setCell ⟨g, o, none⟩ u) base v L := ownsRow_setCell_other h (a := ⟨g, o, none⟩) hne u
theorem OwnF.set5 {w : World} {base : Nat} {v : Value} {L : List Pf} (h : OwnF w base v L) {g : Nat} (hne : v.ownBlock ≠ some g) (v0 v1 v2 v3 v4 : Value) :
    OwnF (((((w.setCell ⟨g, 0, none⟩ v0).setCell ⟨g, 1, none⟩ v1).setCell ⟨g, 2, none⟩ v2).setCell ⟨g, 3, none⟩ v3).setCell ⟨g, 4, none⟩ v4) base v L :=
  ((((h.setf hne 0 v0).setf hne 1 v1).setf hne 2 v2).setf hne 3 v3).setf hne 4 v4
/-- While it crashes. -/
def mix (keep : Int) (L : List Pf) (j : Nat) : List Pf := (L.take j).map (pcr keep) ++ L.drop j
theorem mix_len (keep : Int) (L : List Pf) (j : Nat) : (mix keep L j).length = L.length := by
  unfold mix
  simp
  omega
theorem mix_at (keep : Int) (L : List Pf) (j : Nat) (h : j < L.length) : (mix keep L j)[j]? = some L[j] := by
  unfold mix
  rw [List.getElem?_append_right (by simp; omega)]
  simp [List.length_take, Nat.min_eq_left (Nat.le_of_lt h)]
theorem mix_next (keep : Int) (L : List Pf) (j : Nat) (h : j < L.length) : (mix keep L j).set j (pcr keep L[j]) = mix keep L (j + 1) := by
  unfold mix
  have hl : ((L.take j).map (pcr keep)).length = j := by simp; omega
  rw [List.set_append_right _ _ (by omega), hl, Nat.sub_self, List.drop_eq_getElem_cons h, List.set_cons_zero, List.take_succ_eq_append_getElem h, List.map_append, List.append_assoc]
  rfl
/-- What a crash leaves. -/
def rcrash (keep : Int) (r : Pd) : Pd := ⟨r.cap, r.files.map (pcr keep), false, r.left, r.keep⟩
set_option maxHeartbeats 4000000 in
theorem rcrash_any (A : Option Addr) (c : Nat) (r : Pd) (keep : Int) (hF : Fin r.files) (w : World) (h : Fls w (.slice A r.files.length c) r.files) :
    Calls Tryd.prog 20 #[Rv (.slice A r.files.length c) r, .int .i64 keep] w fun e w' => ∃ A' c', e = .returned (Rv (.slice A' r.files.length c') (rcrash keep r)) ∧ Flt w' (.slice A' r.files.length c') (r.files.map (pcr keep)) ∧ Old w w' := by
  obtain ⟨cap, L, up, left, kp⟩ := r
  obtain ⟨hl, hp, hsy⟩ := hF
  simp only at hl hp hsy h ⊢
  have b1 := new_bk w 29 #[.int .i64 (cap : Int), .slice A L.length c, .bool (!up), .int .i64 (left : Int), .int .i64 kp]
  have o3 := ((old_alloc w (.cells #[.int .i64 (cap : Int), .slice A L.length c, .bool (!up), .int .i64 (left : Int), .int .i64 kp] 29)).al (.cells zeroDsk 29)).al (.cells #[] 83)
  have hown0 := OwnF.empty (base := w.heap.size) (new_bk' ((w.alloc (.cells #[.int .i64 (cap : Int), .slice A L.length c, .bool (!up), .int .i64 (left : Int), .int .i64 kp] 29)).alloc (.cells zeroDsk 29)) 83 #[] (w.heap.size + 1 + 1) (by simp)) (by omega)
  have b1' := (b1.old (old_alloc _ (.cells zeroDsk 29))).old (old_alloc _ (.cells #[] 83))
  have b2' := (new_bk' (w.alloc (.cells #[.int .i64 (cap : Int), .slice A L.length c, .bool (!up), .int .i64 (left : Int), .int .i64 kp] 29)) 29 zeroDsk (w.heap.size + 1) (by simp)).old (old_alloc _ (.cells #[] 83))
  have H := Lib.hid (show _ ∧ _ ∧ _ ∧ _ ∧ _ from ⟨o3, hown0, h.old o3, b1', b2'⟩)
  have HSY := Lib.hid hsy
  clear o3 hown0 b1 b1' b2' h hsy
  go_enter Tryd.func20, Tryd.ntmps20
  go_wp2_with (at_builtin; refine wp_fls rfl (.tmp 9) (.tmp 11) rfl (W0 := w) H.out.1 _ [] L rfl H.out.2.1 _ rfl H.out.2.2.1 (by simp; omega) ?_; intro v8 w8 n8 o8 g8 f8; refine Hid.out ?_)
  have b1 := H.out.2.2.2.1.grown g8 (show some w.heap.size ≠ some (w.heap.size + 1 + 1) by simp; omega)
  have b2 := H.out.2.2.2.2.grown g8 (show some (w.heap.size + 1) ≠ some (w.heap.size + 1 + 1) by simp)
  rw [List.nil_append] at n8
  obtain ⟨A8, c8, rfl, hc8⟩ := n8.fls.form
  have HI0 := Lib.hid (show Old w w8 ∧ Bk w8 w.heap.size 29 (rcs (.slice A L.length c) ⟨cap, L, up, left, kp⟩) ∧ Bk w8 (w.heap.size + 1) 29 zeroDsk ∧ OwnF w8 w.heap.size (.slice A8 L.length c8) (mix keep L 0) from ⟨o8, b1, b2, by unfold mix; simpa using n8⟩)
  clear o8 b1 b2 n8 g8 f8 H
  refine Lib.hid ?_
  go_wp2_with fail
  go_loopw [6] (fun i wr => ∃ j : Nat, j ≤ L.length ∧ i = .int .i64 j ∧ Hid (Old w wr ∧ Bk wr w.heap.size 29 (rcs (.slice A L.length c) ⟨cap, L, up, left, kp⟩) ∧ Bk wr (w.heap.size + 1) 29 zeroDsk ∧ OwnF wr w.heap.size (.slice A8 L.length c8) (mix keep L j))) (fun i _ => L.length - (intOf i).toNat)
  case atStart => exact ⟨0, Nat.zero_le _, rfl, HI0⟩
  case round =>
    clear HI0
    obtain ⟨j, hj, rfl, HI⟩ := hrel
    obtain ⟨o1, b1, b2, n1⟩ := HI.out
    by_cases hlt : j < L.length
    · obtain ⟨g, r, rfl, -, hg, -, hbk, hr1, hr2⟩ := n1.form (by rw [mix_len]; omega)
      have hat := mix_at keep L j hlt
      obtain ⟨a0, a1, a2⟩ := bkF_at hbk hat
      have f1 := hbk.fr (j * 3 + 1)
      have f2 := hbk.fr (j * 3 + 2)
      have hsyn := HSY.out L[j] (List.getElem_mem hlt)
      have hle := le_ptot (List.getElem_mem hlt)
      have HNX := Lib.hid (mix_next keep L j hlt)
      have hw8 : j < c8 := by omega
      generalize L[j] = x at *
      obtain ⟨xn, xs, xk⟩ := x
      simp only at a0 a1 a2 hsyn hle
      by_cases hk : 0 ≤ keep
      · obtain ⟨q, rfl⟩ := Int.eq_ofNat_of_zero_le hk
        obtain ⟨a, ha⟩ : ∃ a, a = xs.length - xk := ⟨_, rfl⟩
        obtain ⟨d, hd⟩ : ∃ d, d = a + 1 := ⟨_, rfl⟩
        obtain ⟨rr, hr⟩ : ∃ rr, rr = q % d := ⟨_, rfl⟩
        have hlt2 : rr < d := by rw [hr]; exact Nat.mod_lt _ (by omega)
        have w1 : IntKind.i64.wrap ((xs.length : Int) - (xk : Int)) = (a : Int) := by rw [IntKind.wrap_i64]; omega
        have w2 : IntKind.i64.wrap ((a : Int) + 1) = (d : Int) := by rw [IntKind.wrap_i64]; omega
        have hz : ¬ (d = 0) := by omega
        have w3 : Int.tmod (q : Int) (d : Int) = (rr : Int) := by rw [hr]; rfl
        have w4 : (q : Int) % (d : Int) = (rr : Int) := by rw [hr]; rfl
        have hst : pstay (q : Int) ⟨xn, xs, xk⟩ = xk + rr := by
          unfold pstay
          simp only
          rw [← ha, ← hd]
          by_cases hq : q = 0
          · subst hq
            rw [if_neg (by omega)]
            rw [Nat.zero_mod] at hr
            omega
          · rw [if_pos (by omega)]
            simp only [Int.toNat_natCast]
            omega
        have hle2 : xk + rr ≤ xs.length := by omega
        clear hr hd ha hk
        have HPC := Lib.hid (show pcr (q : Int) ⟨xn, xs, xk⟩ = ⟨xn, xs.take (xk + rr), xk + rr⟩ by unfold pcr; rw [hst])
        have w5 : IntKind.i64.wrap ((xk : Int) + (rr : Int)) = (xk : Int) + (rr : Int) := by rw [IntKind.wrap_i64]; omega
        have q1 : (0 : Int) ≤ (xk : Int) + (rr : Int) := by omega
        have q2 : (xk : Int) + (rr : Int) ≤ (xs.length : Int) := by omega
        have q3 : ((xk : Int) + (rr : Int)).toNat = xk + rr := by omega
        have xt : (B xs).extract 0 (xk + rr) = B (xs.take (xk + rr)) := ext_take _ _
        have hxl : (xs.take (xk + rr)).length = xk + rr := by rw [List.length_take]; omega
        clear hst
        go_wp2_with fail
        go_quiet (fail)
        go_wp2
        have hbk' : Bk (wr.drewN nq) g 83 (flatF (mix (q : Int) L j) ++ r).toArray := hbk
        have o1' : Old w (wr.drewN nq) := o1.dn _
        have b1' : Bk (wr.drewN nq) w.heap.size 29 _ := b1
        have b2' : Bk (wr.drewN nq) (w.heap.size + 1) 29 _ := b2
        clear a0 a1 a2 f1 f2 hbk o1 b1 b2 n1 HI w1 w2
        generalize wr.drewN nq = W at *
        obtain ⟨a0, a1, a2⟩ := bkF_at hbk' hat
        simp only at a0 a1 a2
        have f1 := hbk'.fr (j * 3 + 1)
        have hb2 : Bk (W.setCell ⟨g, j * 3 + 1, none⟩ (.string (B (xs.take (xk + rr))))).drew g 83 _ := bkF_set hbk' hat (xs.take (xk + rr))
        have hgw : w.heap.size ≠ g := Bk.ne b1' hbk' (by decide)
        have hgw2 : w.heap.size + 1 ≠ g := Bk.ne b2' hbk' (by decide)
        have o2 : Old w (W.setCell ⟨g, j * 3 + 1, none⟩ (.string (B (xs.take (xk + rr))))).drew := (o1'.st (p := ⟨g, j * 3 + 1, none⟩) hg _).dr
        have b3 : Bk (W.setCell ⟨g, j * 3 + 1, none⟩ (.string (B (xs.take (xk + rr))))).drew w.heap.size 29 _ := b1'.far (p := ⟨g, j * 3 + 1, none⟩) hgw _
        have b4 : Bk (W.setCell ⟨g, j * 3 + 1, none⟩ (.string (B (xs.take (xk + rr))))).drew (w.heap.size + 1) 29 _ := b2'.far (p := ⟨g, j * 3 + 1, none⟩) hgw2 _
        have hat2 : ((mix (q : Int) L j).set j ⟨xn, xs.take (xk + rr), xk⟩)[j]? = some ⟨xn, xs.take (xk + rr), xk⟩ := by
          rw [List.getElem?_set_self (by rw [mix_len]; omega)]
        have hb3 := bkF_setn hb2 hat2 (xk + rr)
        have hset : ((mix (q : Int) L j).set j ⟨xn, xs.take (xk + rr), xk⟩).set j ⟨xn, xs.take (xk + rr), xk + rr⟩ = mix (q : Int) L (j + 1) := by
          rw [List.set_set, ← HNX.out, HPC.out]
        simp only at hb3
        rw [hset] at hb3
        have o3 := o2.st (p := ⟨g, j * 3 + 2, none⟩) hg (.int .i64 ((xk + rr : Nat) : Int))
        have b5 := b3.far (p := ⟨g, j * 3 + 2, none⟩) hgw (.int .i64 ((xk + rr : Nat) : Int))
        have b6 := b4.far (p := ⟨g, j * 3 + 2, none⟩) hgw2 (.int .i64 ((xk + rr : Nat) : Int))
        rw [mix_len] at hr1
        have n5 := ownF_mk hb3 hg (by rw [mix_len]; omega) (by rw [mix_len]; omega) hr2
        rw [mix_len] at n5
        rw [show (((xk + rr : Nat) : Int)) = (xk : Int) + (rr : Int) by omega] at o3 b5 b6 n5
        have HR := Lib.hid (show Old w _ ∧ Bk _ w.heap.size 29 _ ∧ Bk _ (w.heap.size + 1) 29 _ ∧ OwnF _ w.heap.size _ (mix (q : Int) L (j + 1)) from ⟨o3, b5, b6, n5⟩)
        have f2' := hb2.fr (j * 3 + 2)
        have d2 := (bkF_at hb2 hat2).a2
        simp only at d2
        clear hb2 hb3 o2 o3 b3 b4 b5 b6 n5 hset hat2
        go_still_tail 17, (by kernel_rfl)
        go_wp2
        go_roundw
        case rel => exact ⟨j + 1, by omega, by go_num, HR⟩
        case measure => simp [intOf]; omega
      · have hkI : decide ((0 : Int) ≤ keep) = false := by rw [decide_eq_false_iff_not]; exact hk
        have hst : pstay keep ⟨xn, xs, xk⟩ = xk := by
          unfold pstay
          rw [if_neg (by omega)]
        have w1 : IntKind.i64.wrap ((xs.length : Int) - (xk : Int)) = ((xs.length - xk : Nat) : Int) := by rw [IntKind.wrap_i64]; omega
        clear hk
        have HPC := Lib.hid (show pcr keep ⟨xn, xs, xk⟩ = ⟨xn, xs.take (xk), xk⟩ by unfold pcr; rw [hst])
        have w5 : IntKind.i64.wrap ((xk : Int)) = (xk : Int) := by rw [IntKind.wrap_i64]; omega
        have w6 : IntKind.i64.wrap ((xk : Int) + 0) = (xk : Int) := by rw [IntKind.wrap_i64]; omega
        have q1 : (0 : Int) ≤ (xk : Int) := by omega
        have q2 : (xk : Int) ≤ (xs.length : Int) := by omega
        have q3 : ((xk : Int)).toNat = xk := by omega
        have xt : (B xs).extract 0 (xk) = B (xs.take (xk)) := ext_take _ _
        have hxl : (xs.take (xk)).length = xk := by rw [List.length_take]; omega
        clear hst
        go_wp2_with fail
        go_quiet (fail)
        go_wp2
        have hbk' : Bk (wr.drewN nq) g 83 (flatF (mix keep L j) ++ r).toArray := hbk
        have o1' : Old w (wr.drewN nq) := o1.dn _
        have b1' : Bk (wr.drewN nq) w.heap.size 29 _ := b1
        have b2' : Bk (wr.drewN nq) (w.heap.size + 1) 29 _ := b2
        clear a0 a1 a2 f1 f2 hbk o1 b1 b2 n1 HI w1
        generalize wr.drewN nq = W at *
        obtain ⟨a0, a1, a2⟩ := bkF_at hbk' hat
        simp only at a0 a1 a2
        have f1 := hbk'.fr (j * 3 + 1)
        have hb2 : Bk (W.setCell ⟨g, j * 3 + 1, none⟩ (.string (B (xs.take (xk))))).drew g 83 _ := bkF_set hbk' hat (xs.take (xk))
        have hgw : w.heap.size ≠ g := Bk.ne b1' hbk' (by decide)
        have hgw2 : w.heap.size + 1 ≠ g := Bk.ne b2' hbk' (by decide)
        have o2 : Old w (W.setCell ⟨g, j * 3 + 1, none⟩ (.string (B (xs.take (xk))))).drew := (o1'.st (p := ⟨g, j * 3 + 1, none⟩) hg _).dr
        have b3 : Bk (W.setCell ⟨g, j * 3 + 1, none⟩ (.string (B (xs.take (xk))))).drew w.heap.size 29 _ := b1'.far (p := ⟨g, j * 3 + 1, none⟩) hgw _
        have b4 : Bk (W.setCell ⟨g, j * 3 + 1, none⟩ (.string (B (xs.take (xk))))).drew (w.heap.size + 1) 29 _ := b2'.far (p := ⟨g, j * 3 + 1, none⟩) hgw2 _
        have hat2 : ((mix keep L j).set j ⟨xn, xs.take (xk), xk⟩)[j]? = some ⟨xn, xs.take (xk), xk⟩ := by
          rw [List.getElem?_set_self (by rw [mix_len]; omega)]
        have hb3 := bkF_setn hb2 hat2 (xk)
        have hset : ((mix keep L j).set j ⟨xn, xs.take (xk), xk⟩).set j ⟨xn, xs.take (xk), xk⟩ = mix keep L (j + 1) := by
          rw [List.set_set, ← HNX.out, HPC.out]
        simp only at hb3
        rw [hset] at hb3
        have o3 := o2.st (p := ⟨g, j * 3 + 2, none⟩) hg (.int .i64 ((xk : Nat) : Int))
        have b5 := b3.far (p := ⟨g, j * 3 + 2, none⟩) hgw (.int .i64 ((xk : Nat) : Int))
        have b6 := b4.far (p := ⟨g, j * 3 + 2, none⟩) hgw2 (.int .i64 ((xk : Nat) : Int))
        rw [mix_len] at hr1
        have n5 := ownF_mk hb3 hg (by rw [mix_len]; omega) (by rw [mix_len]; omega) hr2
        rw [mix_len] at n5
        have HR := Lib.hid (show Old w _ ∧ Bk _ w.heap.size 29 _ ∧ Bk _ (w.heap.size + 1) 29 _ ∧ OwnF _ w.heap.size _ (mix keep L (j + 1)) from ⟨o3, b5, b6, n5⟩)
        have f2' := hb2.fr (j * 3 + 2)
        have d2 := (bkF_at hb2 hat2).a2
        simp only at d2
        clear hb2 hb3 o2 o3 b3 b4 b5 b6 n5 hset hat2
        go_still_tail 17, (by kernel_rfl)
        go_wp2
        go_roundw
        case rel => exact ⟨j + 1, by omega, by go_num, HR⟩
        case measure => simp [intOf]; omega
    · obtain rfl : j = L.length := by omega
      have hmx : mix keep L L.length = L.map (pcr keep) := by unfold mix; simp
      rw [hmx] at n1
      have hfl := n1.fls
      have hml : (L.map (pcr keep)).length = L.length := by simp
      have c0 : wr.cell? ⟨w.heap.size, 0, none⟩ = some (.int .i64 (cap : Int)) := b1.at_ 0 rfl
      have c1 : wr.cell? ⟨w.heap.size, 1, none⟩ = some (.slice A L.length c) := b1.at_ 1 rfl
      have c2 : wr.cell? ⟨w.heap.size, 2, none⟩ = some (.bool (!up)) := b1.at_ 2 rfl
      have c3 : wr.cell? ⟨w.heap.size, 3, none⟩ = some (.int .i64 (left : Int)) := b1.at_ 3 rfl
      have c4 : wr.cell? ⟨w.heap.size, 4, none⟩ = some (.int .i64 kp) := b1.at_ 4 rfl
      have f1 := b1.fr 1
      have f2 := b1.fr 2
      have d0 : wr.cell? ⟨w.heap.size + 1, 0, none⟩ = some (.int .i64 0) := b2.at_ 0 rfl
      have d1 : wr.cell? ⟨w.heap.size + 1, 1, none⟩ = some (.slice none 0 0) := b2.at_ 1 rfl
      have d2 : wr.cell? ⟨w.heap.size + 1, 2, none⟩ = some (.bool false) := b2.at_ 2 rfl
      have d3 : wr.cell? ⟨w.heap.size + 1, 3, none⟩ = some (.int .i64 0) := b2.at_ 3 rfl
      have d4 : wr.cell? ⟨w.heap.size + 1, 4, none⟩ = some (.int .i64 0) := b2.at_ 4 rfl
      have e0 := b2.fr 0
      have e1 := b2.fr 1
      have e2 := b2.fr 2
      have e3 := b2.fr 3
      have e4 := b2.fr 4
      have x1 := n1.ne b1 (by decide)
      have x2 := n1.ne b2 (by decide)
      have HN := Lib.hid (((n1.setf x1 1 (.slice A8 L.length c8)).setf x1 2 (.bool true)).set5 x2 (.int .i64 (cap : Int)) (.slice A8 L.length c8) (.bool true) (.int .i64 (left : Int)) (.int .i64 kp)).flt
      have HO := Lib.hid (old5 ((o1.st (p := ⟨w.heap.size, 1, none⟩) (Nat.le_refl _) (.slice A8 L.length c8)).st (p := ⟨w.heap.size, 2, none⟩) (Nat.le_refl _) (.bool true)) (Nat.le_succ _) (.int .i64 (cap : Int)) (.slice A8 L.length c8) (.bool true) (.int .i64 (left : Int)) (.int .i64 kp))
      have HB := Lib.hid (bk5 ((b2.far (p := ⟨w.heap.size, 1, none⟩) (by simp) (.slice A8 L.length c8)).far (p := ⟨w.heap.size, 2, none⟩) (by simp) (.bool true)) (.int .i64 (cap : Int)) (.slice A8 L.length c8) (.bool true) (.int .i64 (left : Int)) (.int .i64 kp))
      clear hfl o1 n1 hmx HI x1 x2 b1 b2
      go_wp2
      have h0 := HN.out
      have h1 := HO.out
      have h2 := HB.out
      clear c0 c1 c2 c3 c4 d0 d1 d2 d3 d4 e0 e1 e2 e3 e4 f1 f2 HN HO HB
      generalize ((((((wr.setCell ⟨w.heap.size, 1, none⟩ (.slice A8 L.length c8)).setCell ⟨w.heap.size, 2, none⟩ (.bool true)).setCell ⟨w.heap.size + 1, 0, none⟩ (.int .i64 (cap : Int))).setCell ⟨w.heap.size + 1, 1, none⟩ (.slice A8 L.length c8)).setCell ⟨w.heap.size + 1, 2, none⟩ (.bool true)).setCell ⟨w.heap.size + 1, 3, none⟩ (.int .i64 (left : Int))).setCell ⟨w.heap.size + 1, 4, none⟩ (.int .i64 kp) = WF at *
      have e0 : WF.cell? ⟨w.heap.size + 1, 0, none⟩ = some (.int .i64 (cap : Int)) := h2.at_ 0 rfl
      have e1 : WF.cell? ⟨w.heap.size + 1, 1, none⟩ = some (.slice A8 L.length c8) := h2.at_ 1 rfl
      have e2 : WF.cell? ⟨w.heap.size + 1, 2, none⟩ = some (.bool true) := h2.at_ 2 rfl
      have e3 : WF.cell? ⟨w.heap.size + 1, 3, none⟩ = some (.int .i64 (left : Int)) := h2.at_ 3 rfl
      have e4 : WF.cell? ⟨w.heap.size + 1, 4, none⟩ = some (.int .i64 kp) := h2.at_ 4 rfl
      refine bodyPost_ret (v := Rv (.slice A8 L.length c8) (rcrash keep ⟨cap, L, up, left, kp⟩)) (by simp [results, Tryd.results20, go_sem, e0, e1, e2, e3, e4, rcrash]) rfl ⟨A8, c8, rfl, h0, h1⟩
end Go.Proofs.YtilimfbjkgeciaaDoor
