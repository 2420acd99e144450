/-
  SortStableFunc of a slice of items: the items in order, of each coordinate the same one first. Conditions: lengths as written.
-/
import Derived.Test.YteglddggjkibcaaFSym
namespace Go.Proofs.Yteglddggjkibcaa
open Go.RowKit

theorem sym_any (W0 : World) (g cap n : Nat) (r : List Value) (hg : W0.heap.size ≤ g) (hmax : n ≤ 100000) : ∀ N, SymOk W0 g cap n N r := by
  intro N
  induction N with
  | zero => intro w a m b av mv bv H A B T h; omega
  | succ N ih =>
    intro w a m b av mv bv H A B T h hA1 hB1 hA hB o hs hn ha hm hb hav hmv hbv
    subst hav hmv hbv
    by_cases h1 : A.length = 1
    · obtain ⟨x, rfl⟩ : ∃ x, A = [x] := by
        match A, h1 with
        | [x], _ => exact ⟨x, rfl⟩
      have := sym_left W0 w g cap n a m b H x B T r o hg (by simpa using hs) (by simpa using hn) ha (by simpa using hm) hb hmax hB hB1
      simpa using this
    · by_cases h2 : B.length = 1
      · obtain ⟨x, rfl⟩ : ∃ x, B = [x] := by
          match B, h2 with
          | [x], _ => exact ⟨x, rfl⟩
        exact sym_right W0 w g cap n a m b H x A T r o hg (by simpa using hs) (by simpa using hn) ha hm (by simpa using hb) hmax hA (by omega)
      · exact sym_rec W0 w g cap n a m b H A B T r o hg hs hn ha hm hb hmax hA hB (by omega) (by omega) (fun w a m b av mv bv H A' B' T h => ih w a m b av mv bv H A' B' T (by omega))

set_option maxRecDepth 100000 in
set_option maxHeartbeats 4000000 in
theorem stable_any (W0 w : World) (g cap n : Nat) (nv : Int) (D : List Itm) (r : List Value) (o : Old W0 w) (hg : W0.heap.size ≤ g) (hs : Seg w g D r) (hn : n = D.length) (hmax : n ≤ 100000) (hnv : nv = n) :
    Calls Try.prog 72 #[.slice (some ⟨g, 0, none⟩) n cap, .int .i64 nv, fA] w fun e w' => (∃ u, e = .returned u) ∧ Old W0 w' ∧ ∃ M, Sim M D ∧ Srt M ∧ Seg w' g M r := by
  subst hnv
  have HS := Lib.hid hs
  have HN := Lib.hid hn
  clear hn hs
  go_enter Try.func72, Try.ntmps72
  go_wp2_with fail
  go_loopw [7, 8] (fun av bv wr => ∃ (a : Nat) (P R : List Itm), av = .int .i64 a ∧ bv = .int .i64 ((a : Int) + 20) ∧ a ≤ n ∧ Old W0 wr ∧ Hid (P.length = a ∧ a % 20 = 0 ∧ Ch 20 P ∧ Sim (P ++ R) D) ∧ Hid (Seg wr g (P ++ R) r)) (fun av _ _ => n - (intOf av).toNat)
  case atStart => exact ⟨0, [], D, rfl, rfl, by omega, o, Lib.hid ⟨rfl, rfl, Ch.nil _, Sim.refl _⟩, HS⟩
  case round =>
    obtain ⟨a, P, R, rfl, rfl, ha, o1, HM, HS1⟩ := hrel
    by_cases hlt : a + 20 ≤ n
    · go_wp2_with fail
      obtain ⟨e1, e2, e3, e4⟩ := HM.out
      have hn := HN.out
      have el := e4.len
      rw [List.length_append] at el
      have hcut : R = R.take 20 ++ R.drop 20 := (List.take_append_drop 20 R).symm
      have l1 : (R.take 20).length = 20 := by simp; omega
      generalize R.take 20 = M at *
      generalize R.drop 20 = T at *
      subst hcut
      refine (insertion_any W0 wr g cap n a (a + 20) _ _ P M T r o1 hg (Seg.eq HS1.out (by simp)) (by simp at el ⊢; omega) e1.symm (by omega) hmax (by omega) (by omega)).mono ?_
      rintro e w1 ⟨⟨u, rfl⟩, o2, M', g1, g2, g3⟩
      have HM2 : Hid ((P ++ M').length = a + 20 ∧ (a + 20) % 20 = 0 ∧ Ch 20 (P ++ M') ∧ Sim (P ++ M' ++ T) D) := Lib.hid ⟨by have := g1.len; simp; omega, by omega, (Ch.app (by omega) (by omega)).2 ⟨e3, (Ch.small (by have := g1.len; omega)).2 g2⟩, by
        refine Sim.trans ?_ e4
        rw [List.append_assoc]
        exact (Sim.refl P).app (g1.app (Sim.refl T))⟩
      have HS2 := Lib.hid g3
      clear e1 e2 e3 e4 hn el l1 g1 g2 g3 HM HS1 o1
      go_wp2
      go_round
      case rel => exact ⟨a + 20, P ++ M', T, by go_num, by go_num, by omega, o2, HM2, HS2⟩
      case measure => simp [intOf]; omega
    · go_wp2_with fail
      obtain ⟨e1, e2, e3, e4⟩ := HM.out
      have hn := HN.out
      have el := e4.len
      rw [List.length_append] at el
      refine (insertion_any W0 wr g cap n a n _ _ P R [] r o1 hg (Seg.eq HS1.out (by simp)) (by simp; omega) e1.symm (by omega) hmax (by omega) (by omega)).mono ?_
      rintro e w1 ⟨⟨u, rfl⟩, o2, M', g1, g2, g3⟩
      obtain ⟨E, HE⟩ : ∃ E, Hid (Ch 20 E ∧ Sim E D ∧ Seg w1 g E r) := ⟨P ++ M', Lib.hid ⟨(Ch.app (by omega) (by omega)).2 ⟨e3, (Ch.small (by have := g1.len; omega)).2 g2⟩, Sim.trans ((Sim.refl P).app g1) e4, Seg.eq g3 (by simp)⟩⟩
      clear e1 e2 e3 e4 hn el g1 g2 g3 HM HS1 o1
      go_wp2_with fail
      go_loopw [6] (fun bv wr => ∃ (bs : Nat) (E : List Itm), bv = .int .i64 bs ∧ 20 ≤ bs ∧ bs ≤ 200000 ∧ Old W0 wr ∧ Hid (Ch bs E ∧ Sim E D ∧ Seg wr g E r)) (fun bv _ => 200000 - (intOf bv).toNat)
      case atStart => exact ⟨20, E, rfl, by omega, by omega, o2, HE⟩
      case round =>
        clear HE o2
        obtain ⟨bs, E, rfl, hbs1, hbs2, o1, HE⟩ := hrel
        by_cases hlt2 : bs < n
        · go_wp2_with fail
          go_loopw [7, 8] (fun av bv wr => ∃ (a : Nat) (P R : List Itm), av = .int .i64 a ∧ bv = .int .i64 ((a : Int) + 2 * (bs : Int)) ∧ a ≤ n ∧ Old W0 wr ∧ Hid (P.length = a ∧ a % (2 * bs) = 0 ∧ Ch (2 * bs) P ∧ Ch bs R ∧ Sim (P ++ R) D) ∧ Hid (Seg wr g (P ++ R) r)) (fun av _ _ => n - (intOf av).toNat)
          case atStart =>
            obtain ⟨e1, e2, e3⟩ := HE.out
            exact ⟨0, [], E, rfl, by go_num, by omega, o1, Lib.hid ⟨rfl, by simp, Ch.nil _, e1, e2⟩, Lib.hid e3⟩
          case round =>
            clear HE o1
            obtain ⟨a, P, R, rfl, rfl, ha, o1, HM, HS1⟩ := hrel
            by_cases hlt3 : a + 2 * bs ≤ n
            · go_wp2_with fail
              obtain ⟨e1, e2, e3, e4, e5⟩ := HM.out
              have hn := HN.out
              have el := e5.len
              rw [List.length_append] at el
              have hcut : R = R.take bs ++ ((R.drop bs).take bs ++ R.drop (bs + bs)) := by
                rw [← List.drop_drop, List.take_append_drop, List.take_append_drop]
              have l1 : (R.take bs).length = bs := by simp; omega
              have l2 : ((R.drop bs).take bs).length = bs := by simp; omega
              generalize R.take bs = X at *
              generalize (R.drop bs).take bs = Y at *
              generalize R.drop (bs + bs) = T at *
              subst hcut
              obtain ⟨c1, c2⟩ := (Ch.app (by omega) (by rw [l1, Nat.mod_self])).1 e4
              obtain ⟨c3, c4⟩ := (Ch.app (by omega) (by rw [l2, Nat.mod_self])).1 c2
              refine (sym_any W0 g cap n r hg hmax (X.length + Y.length + 1) wr a (a + bs) (a + 2 * bs) _ _ _ P X Y T (by omega) (by omega) (by omega) ((Ch.small (by omega)).1 c1) ((Ch.small (by omega)).1 c3) o1 (Seg.eq HS1.out (by simp)) (by simp at el ⊢; omega) e1.symm (by omega) (by omega) (by omega) (by omega) (by omega)).mono ?_
              rintro e w2 ⟨⟨u2, rfl⟩, o3, M', g1, g2, g3⟩
              have gl := g1.len
              rw [List.length_append] at gl
              have HM2 : Hid ((P ++ M').length = a + 2 * bs ∧ (a + 2 * bs) % (2 * bs) = 0 ∧ Ch (2 * bs) (P ++ M') ∧ Ch bs T ∧ Sim (P ++ M' ++ T) D) := Lib.hid ⟨by simp; omega, by rw [Nat.add_mod_right]; exact e2, (Ch.app (by omega) (by rw [e1]; exact e2)).2 ⟨e3, (Ch.small (by omega)).2 g2⟩, c4, by
                refine Sim.trans ?_ e5
                have := (Sim.refl P).app (g1.app (Sim.refl T))
                simpa using this⟩
              have HS2 := Lib.hid g3
              clear e1 e2 e3 e4 e5 hn el l1 l2 c1 c2 c3 c4 g1 g2 g3 gl HM HS1 o1
              go_wp2
              go_round
              case rel => exact ⟨a + 2 * bs, P ++ M', T, by go_num, by go_num, by omega, o3, HM2, HS2⟩
              case measure => simp [intOf]; omega
            · by_cases hlt4 : a + bs < n
              · go_wp2_with fail
                obtain ⟨e1, e2, e3, e4, e5⟩ := HM.out
                have hn := HN.out
                have el := e5.len
                rw [List.length_append] at el
                have hcut : R = R.take bs ++ R.drop bs := (List.take_append_drop bs R).symm
                have l1 : (R.take bs).length = bs := by simp; omega
                generalize R.take bs = X at *
                generalize R.drop bs = Y at *
                subst hcut
                rw [List.length_append] at el
                obtain ⟨c1, c2⟩ := (Ch.app (by omega) (by rw [l1, Nat.mod_self])).1 e4
                refine (sym_any W0 g cap n r hg hmax (X.length + Y.length + 1) wr a (a + bs) n _ _ _ P X Y [] (by omega) (by omega) (by omega) ((Ch.small (by omega)).1 c1) ((Ch.small (by omega)).1 c2) o1 (Seg.eq HS1.out (by simp)) (by simp; omega) e1.symm (by omega) (by omega) (by omega) (by omega) (by omega)).mono ?_
                rintro e w2 ⟨⟨u2, rfl⟩, o3, M', g1, g2, g3⟩
                have gl := g1.len
                rw [List.length_append] at gl
                have HE2 : Hid (Ch (2 * bs) (P ++ M') ∧ Sim (P ++ M') D ∧ Seg w2 g (P ++ M') r) := Lib.hid ⟨(Ch.app (by omega) (by rw [e1]; exact e2)).2 ⟨e3, (Ch.small (by omega)).2 g2⟩, Sim.trans ((Sim.refl P).app g1) e5, Seg.eq g3 (by simp)⟩
                clear e1 e2 e3 e4 e5 hn el l1 c1 c2 g1 g2 g3 gl HM HS1 o1
                go_wp2
                go_roundw
                case rel => exact ⟨2 * bs, P ++ M', by go_num, by omega, by omega, o3, HE2⟩
                case measure => simp [intOf]; omega
              · have HE2 : Hid (Ch (2 * bs) (P ++ R) ∧ Sim (P ++ R) D ∧ Seg wr g (P ++ R) r) := by
                  obtain ⟨e1, e2, e3, e4, e5⟩ := HM.out
                  have hn := HN.out
                  have el := e5.len
                  rw [List.length_append] at el
                  exact Lib.hid ⟨(Ch.app (by omega) (by rw [e1]; exact e2)).2 ⟨e3, (Ch.small (by omega)).2 ((Ch.small (by omega)).1 e4)⟩, e5, HS1.out⟩
                clear HM HS1
                go_wp2
                go_roundw
                case rel => exact ⟨2 * bs, P ++ R, by go_num, by omega, by omega, o1, HE2⟩
                case measure => simp [intOf]; omega
        · have HZ : Hid (Sim E D ∧ Srt E ∧ Seg wr g E r) := by
            obtain ⟨e1, e2, e3⟩ := HE.out
            have hn := HN.out
            exact Lib.hid ⟨e2, (Ch.small (by have := e2.len; omega)).1 e1, e3⟩
          clear HE
          go_wp2
          exact bodyPost_end (results_none rfl _ _ _) rfl ⟨⟨_, rfl⟩, o1, E, HZ.out⟩

set_option maxHeartbeats 1000000 in
theorem sortStable_any (W0 w : World) (g cap : Nat) (D : List Itm) (r : List Value) (o : Old W0 w) (hg : W0.heap.size ≤ g) (hs : Seg w g D r) (hmax : D.length ≤ 100000) :
    Calls Try.prog 61 #[.slice (some ⟨g, 0, none⟩) D.length cap, fA] w fun e w' => (∃ u, e = .returned u) ∧ Old W0 w' ∧ ∃ M, Sim M D ∧ Srt M ∧ Seg w' g M r := by
  have C := stable_any W0 w g cap D.length _ D r o hg hs rfl hmax rfl
  go_enter Try.func61, Try.ntmps61
  go_wp2_with (go_at_call 72; refine C.mono ?_; rintro e w' ⟨⟨u, rfl⟩, h⟩)
  exact bodyPost_end (results_none rfl _ _ _) rfl ⟨⟨_, rfl⟩, h⟩
end Go.Proofs.Yteglddggjkibcaa
