/-
  swapRange and rotate of a slice of items. Conditions: lengths as written.
-/
import Derived.Test.YteglddggjkibcaaFCmp
namespace Go.Proofs.Yteglddggjkibcaa
open Go.RowKit

theorem at_mid {α : Type} (P R : List α) (x : α) : (P ++ x :: R)[P.length]? = some x := by simp
theorem set_mid {α : Type} (P R : List α) (x y : α) : (P ++ x :: R).set P.length y = P ++ y :: R := by simp
/-- Two places change what they hold. -/
theorem swap_at {α : Type} (P Q R : List α) (x y : α) (i j : Nat) (hi : i = P.length) (hj : j = P.length + 1 + Q.length) :
    (P ++ x :: (Q ++ y :: R))[i]? = some x ∧ (P ++ x :: (Q ++ y :: R))[j]? = some y ∧ ((P ++ x :: (Q ++ y :: R)).set i y).set j x = P ++ y :: (Q ++ x :: R) := by
  subst hi hj
  refine ⟨at_mid _ _ _, ?_, ?_⟩
  · simp [Nat.add_comm, Nat.add_left_comm]
  · rw [set_mid]
    simp [Nat.add_comm, Nat.add_left_comm]
def swD (H X M Y T : List Itm) (k : Nat) : List Itm := (H ++ Y.take k) ++ (X.drop k ++ M ++ X.take k) ++ (Y.drop k ++ T)
theorem swD_step (H X M Y T : List Itm) (k : Nat) (h : X.length = Y.length) (hk : k < X.length) :
    ∃ x y, (swD H X M Y T k)[H.length + k]? = some x ∧ (swD H X M Y T k)[H.length + X.length + M.length + k]? = some y ∧ ((swD H X M Y T k).set (H.length + k) y).set (H.length + X.length + M.length + k) x = swD H X M Y T (k + 1) := by
  have e1 : X.drop k = X[k] :: X.drop (k + 1) := List.drop_eq_getElem_cons hk
  have e2 : Y.drop k = Y[k] :: Y.drop (k + 1) := List.drop_eq_getElem_cons (by omega)
  have e3 : X.take (k + 1) = X.take k ++ [X[k]] := by rw [List.take_succ_eq_append_getElem hk]
  have e4 : Y.take (k + 1) = Y.take k ++ [Y[k]'(by omega)] := by rw [List.take_succ_eq_append_getElem (by omega)]
  have f1 : swD H X M Y T k = (H ++ Y.take k) ++ X[k] :: ((X.drop (k + 1) ++ M ++ X.take k) ++ Y[k]'(by omega) :: (Y.drop (k + 1) ++ T)) := by
    unfold swD
    rw [e1, e2]
    simp only [List.append_assoc, List.cons_append]
  have f2 : swD H X M Y T (k + 1) = (H ++ Y.take k) ++ Y[k]'(by omega) :: ((X.drop (k + 1) ++ M ++ X.take k) ++ X[k] :: (Y.drop (k + 1) ++ T)) := by
    unfold swD
    rw [e3, e4]
    simp only [List.append_assoc, List.cons_append, List.nil_append]
  have := swap_at (H ++ Y.take k) (X.drop (k + 1) ++ M ++ X.take k) (Y.drop (k + 1) ++ T) X[k] (Y[k]'(by omega)) (H.length + k) (H.length + X.length + M.length + k) (by simp; omega) (by simp; omega)
  rw [← f1, ← f2] at this
  exact ⟨_, _, this⟩
theorem swD_len (H X M Y T : List Itm) (k : Nat) (h : X.length = Y.length) (hk : k ≤ X.length) : (swD H X M Y T k).length = (H ++ X ++ M ++ Y ++ T).length := by
  unfold swD; simp; omega

set_option maxHeartbeats 2000000 in
theorem swapRange_any (W0 w : World) (g cap n a b k : Nat) (av bv kv : Int) (H X M Y T : List Itm) (r : List Value) (fv : Value) (hX : X.length = Y.length) (o : Old W0 w) (hg : W0.heap.size ≤ g) (hs : Seg w g (H ++ X ++ M ++ Y ++ T) r)
    (hn : n = (H ++ X ++ M ++ Y ++ T).length) (ha : a = H.length) (hb : b = H.length + X.length + M.length) (hk : k = X.length) (hmax : n ≤ 100000) (hav : av = a) (hbv : bv = b) (hkv : kv = k) :
    Calls Try.prog 78 #[.slice (some ⟨g, 0, none⟩) n cap, .int .i64 av, .int .i64 bv, .int .i64 kv, fv] w fun e w' => (∃ u, e = .returned u) ∧ Old W0 w' ∧ Seg w' g (H ++ Y ++ M ++ X ++ T) r := by
  subst hav hbv hkv
  have hlen : n = H.length + X.length + M.length + Y.length + T.length := by rw [hn]; simp; omega
  have q1 : a + k ≤ b := by omega
  have q2 : b + k ≤ n := by omega
  have HH := Lib.hid (And.intro hn (And.intro ha (And.intro hb (And.intro hk hX))))
  clear hn ha hb hk hX hlen
  go_enter Try.func78, Try.ntmps78
  go_wp2_with fail
  go_loopw [10] (fun i wr => ∃ j : Nat, j ≤ k ∧ i = .int .i64 j ∧ Old W0 wr ∧ Hid (Seg wr g (swD H X M Y T j) r)) (fun i _ => k - (intOf i).toNat)
  case atStart => exact ⟨0, Nat.zero_le _, rfl, o, Lib.hid (by simpa [swD] using hs)⟩
  case round =>
    obtain ⟨j, hj, rfl, o1, HS⟩ := hrel
    by_cases hlt : j < k
    · obtain ⟨x, y, HX, HY, HF⟩ : ∃ x y, Hid (At5 wr g ((a + j) * 5) x) ∧ Hid (At5 wr g ((b + j) * 5) y) ∧ Hid (Seg (putI (putI wr g ((a + j) * 5) y) g ((b + j) * 5) x) g (swD H X M Y T (j + 1)) r) := by
        obtain ⟨hn, ha, hb, hk, hX⟩ := HH.out
        obtain ⟨x, y, h1, h2, h3⟩ := swD_step H X M Y T j hX (by omega)
        have s1 := HS.out
        have l1 := swD_len H X M Y T j hX (by omega)
        rw [← hb] at h2 h3
        rw [← ha] at h1 h3
        refine ⟨x, y, Lib.hid (s1.at_ h1), Lib.hid (s1.at_ h2), Lib.hid ?_⟩
        rw [← h3]
        exact (s1.put (by omega) y).put (by rw [List.length_set]; omega) x
      go_upto_region 3 with (fail)
      obtain ⟨x0, x1, x2, x3, x4⟩ := HX.out.held
      obtain ⟨y0, y1, y2, y3, y4⟩ := HY.out.held
      have fr : ∀ q, wr.frozen? ⟨g, q, none⟩ = false := fun q => Bk.fr HS.out q
      go_region
      have o2 := ((o1.putI hg ((a + j) * 5) y).putI hg ((b + j) * 5) x).dr
      have hf := HF.out.drew
      unfold putI at o2 hf
      have HG := Lib.hid hf
      clear x0 x1 x2 x3 x4 y0 y1 y2 y3 y4 fr hf HF HX HY HS
      go_wp2
      go_round
      case rel => exact ⟨j + 1, by omega, by go_num, o2, HG⟩
      case measure => simp [intOf]; omega
    · obtain rfl : j = k := by omega
      go_wp2
      refine bodyPost_end (results_none rfl _ _ _) rfl ⟨⟨_, rfl⟩, o1, ?_⟩
      obtain ⟨hn, ha, hb, hk, hX⟩ := HH.out
      have s1 := HS.out
      rw [hk] at s1
      unfold swD at s1
      rw [List.drop_length, List.take_length, hX, List.take_length, List.drop_length] at s1
      simpa using s1

theorem Seg.eq {w : World} {g : Nat} {l m : List Itm} {r : List Value} (h : Seg w g l r) (e : l = m) : Seg w g m r := e ▸ h
set_option maxHeartbeats 2000000 in
theorem rotate_any (W0 w : World) (g cap n a m b : Nat) (av mv bv : Int) (H X Y T : List Itm) (r : List Value) (fv : Value) (o : Old W0 w) (hg : W0.heap.size ≤ g) (hs : Seg w g (H ++ X ++ Y ++ T) r)
    (hn : n = (H ++ X ++ Y ++ T).length) (ha : a = H.length) (hm : m = H.length + X.length) (hb : b = H.length + X.length + Y.length) (hX : 1 ≤ X.length) (hY : 1 ≤ Y.length) (hmax : n ≤ 100000) (hav : av = a) (hmv : mv = m) (hbv : bv = b) :
    Calls Try.prog 77 #[.slice (some ⟨g, 0, none⟩) n cap, .int .i64 av, .int .i64 mv, .int .i64 bv, fv] w fun e w' => (∃ u, e = .returned u) ∧ Old W0 w' ∧ Seg w' g (H ++ Y ++ X ++ T) r := by
  subst hav hmv hbv
  obtain ⟨i0, hi0⟩ : ∃ i0, i0 = X.length := ⟨_, rfl⟩
  obtain ⟨j0, hj0⟩ : ∃ j0, j0 = Y.length := ⟨_, rfl⟩
  have q1 : a + i0 = m := by omega
  have q2 : m + j0 = b := by omega
  have q3 : b ≤ n := by rw [hn]; simp; omega
  rw [← hi0] at hX
  rw [← hj0] at hY
  have HS := Lib.hid hs
  have HN := Lib.hid (And.intro hn (And.intro ha (And.intro hi0 hj0)))
  clear ha hm hb hn hs hi0 hj0
  go_enter Try.func77, Try.ntmps77
  go_wp2_with fail
  go_loopw [10, 11] (fun iv jv wr => ∃ (i j : Nat) (H' X' Y' T' : List Itm), iv = .int .i64 i ∧ jv = .int .i64 j ∧ 1 ≤ i ∧ 1 ≤ j ∧ a + i ≤ m ∧ m + j ≤ b ∧ Old W0 wr ∧ Hid (i = X'.length ∧ j = Y'.length ∧ m = H'.length + i ∧ n = (H' ++ X' ++ Y' ++ T').length ∧ H' ++ Y' ++ X' ++ T' = H ++ Y ++ X ++ T) ∧ Hid (Seg wr g (H' ++ X' ++ Y' ++ T') r)) (fun iv jv _ => (intOf iv).toNat + (intOf jv).toNat)
  case atStart =>
    obtain ⟨hn, ha, hi, hj⟩ := HN.out
    exact ⟨i0, j0, H, X, Y, T, by go_num, by go_num, hX, hY, by omega, by omega, o, Lib.hid ⟨hi, hj, by omega, hn, rfl⟩, HS⟩
  case round =>
    obtain ⟨i, j, H', X', Y', T', rfl, rfl, hi, hj, hai, hmj, o1, HM, HS1⟩ := hrel
    by_cases hne : i = j
    · subst hne
      go_wp2_with fail
      obtain ⟨e1, e2, e3, e4, e5⟩ := HM.out
      refine (swapRange_any W0 wr g cap n (m - i) m i _ _ _ H' X' [] Y' T' r fv (by omega) o1 hg (by simpa using HS1.out) (by simpa using e4) (by omega) (by simp; omega) e1 hmax (by omega) (by omega) (by omega)).mono ?_
      rintro e w1 ⟨⟨u, rfl⟩, o2, s2⟩
      have HF : Hid (Seg w1 g (H ++ Y ++ X ++ T) r) := Lib.hid (Seg.eq s2 (by simpa using e5))
      clear s2 e1 e2 e3 e4 e5 HM HS1
      go_wp2
      exact bodyPost_end (results_none rfl _ _ _) rfl ⟨⟨_, rfl⟩, o2, HF.out⟩
    · by_cases hlt : j < i
      · go_wp2_with fail
        obtain ⟨e1, e2, e3, e4, e5⟩ := HM.out
        have hcut : X' = X'.take j ++ X'.drop j := (List.take_append_drop j X').symm
        have l1 : (X'.take j).length = j := by simp; omega
        have l2 : (X'.drop j).length = i - j := by simp; omega
        generalize X'.take j = X1 at *
        generalize X'.drop j = X2 at *
        subst hcut
        refine (swapRange_any W0 wr g cap n (m - i) m j _ _ _ H' X1 X2 Y' T' r fv (by omega) o1 hg (by simpa using HS1.out) (by simpa using e4) (by omega) (by omega) l1.symm hmax (by omega) (by omega) (by omega)).mono ?_
        rintro e w1 ⟨⟨u, rfl⟩, o2, s2⟩
        have HF : Hid (Seg w1 g (H' ++ Y' ++ X2 ++ X1 ++ T') r) := Lib.hid s2
        have HM2 : Hid (i - j = X2.length ∧ j = X1.length ∧ m = (H' ++ Y').length + (i - j) ∧ n = (H' ++ Y' ++ X2 ++ X1 ++ T').length ∧ H' ++ Y' ++ X1 ++ X2 ++ T' = H ++ Y ++ X ++ T) := Lib.hid ⟨l2.symm, l1.symm, by simp; omega, by rw [e4]; simp; omega, by simpa using e5⟩
        clear s2 e1 e2 e3 e4 e5 HM HS1 l1 l2
        go_wp2
        go_round
        case rel => exact ⟨i - j, j, H' ++ Y', X2, X1, T', by go_num, by go_num, by omega, by omega, by omega, by omega, o2, HM2, HF⟩
        case measure => simp [intOf]; omega
      · go_wp2_with fail
        obtain ⟨e1, e2, e3, e4, e5⟩ := HM.out
        have hcut : Y' = Y'.take (j - i) ++ Y'.drop (j - i) := (List.take_append_drop (j - i) Y').symm
        have l1 : (Y'.take (j - i)).length = j - i := by simp; omega
        have l2 : (Y'.drop (j - i)).length = i := by simp; omega
        generalize Y'.take (j - i) = Y1 at *
        generalize Y'.drop (j - i) = Y2 at *
        subst hcut
        refine (swapRange_any W0 wr g cap n (m - i) (m + j - i) i _ _ _ H' X' Y1 Y2 T' r fv (by omega) o1 hg (by simpa using HS1.out) (by simpa using e4) (by omega) (by omega) e1 hmax (by omega) (by omega) (by omega)).mono ?_
        rintro e w1 ⟨⟨u, rfl⟩, o2, s2⟩
        have HF : Hid (Seg w1 g (H' ++ Y2 ++ Y1 ++ (X' ++ T')) r) := Lib.hid (by simpa using s2)
        have HM2 : Hid (i = Y2.length ∧ j - i = Y1.length ∧ m = H'.length + i ∧ n = (H' ++ Y2 ++ Y1 ++ (X' ++ T')).length ∧ H' ++ Y1 ++ Y2 ++ (X' ++ T') = H ++ Y ++ X ++ T) := Lib.hid ⟨l2.symm, l1.symm, e3, by rw [e4]; simp; omega, by simpa using e5⟩
        clear s2 e1 e2 e3 e4 e5 HM HS1 l1 l2
        go_wp2
        go_round
        case rel => exact ⟨i, j - i, H', Y2, Y1, X' ++ T', by go_num, by go_num, by omega, by omega, by omega, by omega, o2, HM2, HF⟩
        case measure => simp [intOf]; omega
end Go.Proofs.Yteglddggjkibcaa
