/-
  symMerge of a slice of items. Conditions: lengths as written.
-/
import Derived.Test.YteglddggjkibcaaFSyr
namespace Go.Proofs.Yteglddggjkibcaa
open Go.RowKit

theorem srt_one {A B : List Itm} (h : A = [] ∨ B = []) (hA : Srt A) (hB : Srt B) : Srt (A ++ B) := by
  rcases h with rfl | rfl
  · simpa using hB
  · simpa using hA
/-- Two parts, each put in order, make the whole. -/
theorem sym_done {A1 A2 B1 B2 M1 M2 : List Itm} (P1 : ∀ x ∈ B1, ∀ y ∈ A2, cmpI x y < 0) (P2 : ∀ x ∈ A1, ∀ y ∈ B2, cmpI x y ≤ 0) (SA : Srt (A1 ++ A2)) (SB : Srt (B1 ++ B2)) (S1 : Sim M1 (A1 ++ B1)) (S2 : Sim M2 (A2 ++ B2)) (T1 : Srt M1) (T2 : Srt M2) :
    Sim (M1 ++ M2) (A1 ++ A2 ++ (B1 ++ B2)) ∧ Srt (M1 ++ M2) := by
  constructor
  · refine (S1.app S2).trans ?_
    have := ((Sim.refl A1).app (Sim.rot P1)).app (Sim.refl B2)
    simpa using this
  · refine Srt.app T1 T2 fun x hx y hy => ?_
    have hA := (List.pairwise_append.1 SA).2.2
    have hB := (List.pairwise_append.1 SB).2.2
    rcases List.mem_append.1 (S1.sub x hx) with hx | hx <;> rcases List.mem_append.1 (S2.sub y hy) with hy | hy
    · exact hA x hx y hy
    · exact P2 x hx y hy
    · exact Int.le_of_lt (P1 x hx y hy)
    · exact hB x hx y hy
/-- Where the two parts are cut. -/
theorem sym_parts {A B : List Itm} {a m b mid s s0 r0 en : Nat} (hA : Srt A) (hB : Srt B) (hm : m = a + A.length) (hb : b = m + B.length) (hs0 : s0 ≤ s) (hr0 : s ≤ r0) (ha : a ≤ s) (hsm : s ≤ m) (hen : en + s = mid + m) (hme : m ≤ en) (heb : en ≤ b)
    (hway : (s0 + b = mid + m ∧ r0 = mid) ∨ (s0 = a ∧ r0 = m))
    (h1 : s0 < s → ∃ y z, A[s - 1 - a]? = some y ∧ B[mid + m - 1 - (s - 1) - m]? = some z ∧ 0 ≤ cmpI z y)
    (h2 : s < r0 → ∃ y z, A[s - a]? = some y ∧ B[mid + m - 1 - s - m]? = some z ∧ cmpI z y < 0) :
    ∃ A1 A2 B1 B2, A = A1 ++ A2 ∧ B = B1 ++ B2 ∧ A1.length = s - a ∧ A2.length = m - s ∧ B1.length = en - m ∧ B2.length = b - en ∧ (∀ x ∈ B1, ∀ y ∈ A2, cmpI x y < 0) ∧ (∀ x ∈ A1, ∀ y ∈ B2, cmpI x y ≤ 0) := by
  refine ⟨A.take (s - a), A.drop (s - a), B.take (en - m), B.drop (en - m), (List.take_append_drop _ _).symm, (List.take_append_drop _ _).symm, by simp; omega, by simp; omega, by simp; omega, by simp; omega, ?_, ?_⟩
  · by_cases hlt : s < r0
    · obtain ⟨y0, z0, e1, e2, e3⟩ := h2 hlt
      intro x hx y hy
      have g1 : cmpI x y0 < 0 := cut_dn (lt_dn y0) hB (k := en - m) (fun _ => ⟨z0, by rw [show en - m - 1 = mid + m - 1 - s - m by omega]; exact e2, e3⟩) x hx
      exact cut_up (gt_up x) hA (k := s - a) (fun _ => ⟨y0, e1, g1⟩) y hy
    · rcases hway with h | h
      · intro x hx
        rw [show en - m = 0 by omega] at hx
        simp at hx
      · intro x _ y hy
        rw [List.drop_eq_nil_of_le (by omega)] at hy
        simp at hy
  · by_cases hlt : s0 < s
    · obtain ⟨y0, z0, e1, e2, e3⟩ := h1 hlt
      intro x hx y hy
      have g1 : 0 ≤ cmpI z0 x := cut_dn (gt_dn z0) hA (k := s - a) (fun _ => ⟨y0, by rw [show s - a - 1 = s - 1 - a by omega]; exact e1, e3⟩) x hx
      have g2 : 0 ≤ cmpI y x := cut_up (lt_up x) hB (k := en - m) (fun _ => ⟨z0, by rw [show en - m = mid + m - 1 - (s - 1) - m by omega]; exact e2, g1⟩) y hy
      have g3 := cmpI_neg x y
      omega
    · rcases hway with h | h
      · intro x _ y hy
        rw [List.drop_eq_nil_of_le (by omega)] at hy
        simp at hy
      · intro x hx
        rw [show s - a = 0 by omega] at hx
        simp at hx

/-- What symMerge is to do. -/
def SymOk (W0 : World) (g cap n N : Nat) (r : List Value) : Prop := ∀ (w : World) (a m b : Nat) (av mv bv : Int) (H A B T : List Itm), A.length + B.length < N → 1 ≤ A.length → 1 ≤ B.length → Srt A → Srt B → Old W0 w → Seg w g (H ++ A ++ B ++ T) r →
  n = (H ++ A ++ B ++ T).length → a = H.length → m = a + A.length → b = m + B.length → av = a → mv = m → bv = b →
  Calls Try.prog 76 #[.slice (some ⟨g, 0, none⟩) n cap, .int .i64 av, .int .i64 mv, .int .i64 bv, fA] w fun e w' => (∃ u, e = .returned u) ∧ Old W0 w' ∧ ∃ M, Sim M (A ++ B) ∧ Srt M ∧ Seg w' g (H ++ M ++ T) r

set_option maxRecDepth 100000 in
set_option maxHeartbeats 8000000 in
theorem sym_rec (W0 w : World) (g cap n a m b : Nat) (H L R T : List Itm) (r : List Value) (o : Old W0 w) (hg : W0.heap.size ≤ g) (hs : Seg w g (H ++ L ++ R ++ T) r)
    (hn : n = (H ++ L ++ R ++ T).length) (ha : a = H.length) (hm : m = a + L.length) (hb : b = m + R.length) (hmax : n ≤ 100000) (hL : Srt L) (hR : Srt R) (hL2 : 2 ≤ L.length) (hR2 : 2 ≤ R.length) (IH : SymOk W0 g cap n (L.length + R.length) r) :
    Calls Try.prog 76 #[.slice (some ⟨g, 0, none⟩) n cap, .int .i64 a, .int .i64 m, .int .i64 b, fA] w fun e w' => (∃ u, e = .returned u) ∧ Old W0 w' ∧ ∃ M, Sim M (L ++ R) ∧ Srt M ∧ Seg w' g (H ++ M ++ T) r := by
  have q0 : a + 2 ≤ m := by omega
  have q1 : m + 2 ≤ b := by omega
  have hE : ((m : Int) - (a : Int) == 1) = false := by simp; omega
  have hE1 : ((b : Int) - (m : Int) == 1) = false := by simp; omega
  have q2 : b ≤ n := by rw [hn]; simp; omega
  obtain ⟨mid, hmid⟩ : ∃ mid, mid = (a + b) / 2 := ⟨_, rfl⟩
  have hq3 : ((a : Int) + b) / 2 = (mid : Int) := by omega
  have q5 : a + 2 ≤ mid := by omega
  have q6 : mid + 2 ≤ b := by omega
  have q7 : 2 * mid ≤ a + b := by omega
  have q8 : a + b ≤ 2 * mid + 1 := by omega
  have HS := Lib.hid hs
  have HN := Lib.hid (And.intro hn (And.intro ha (And.intro hm (And.intro hb (And.intro hL hR)))))
  have HI := Lib.hid IH
  clear hn ha hb hs hL hR hm hmid hL2 hR2 IH
  by_cases hway : mid < m
  · obtain ⟨s0, hs0⟩ : ∃ s0, s0 = mid + m - b := ⟨_, rfl⟩
    obtain ⟨r0, hr0⟩ : ∃ r0, r0 = mid := ⟨_, rfl⟩
    have HW : Hid ((s0 + b = mid + m ∧ r0 = mid) ∨ (s0 = a ∧ r0 = m)) := Lib.hid (by omega)
    have w1 : a ≤ s0 := by omega
    have w2 : s0 ≤ r0 := by omega
    have w3 : r0 ≤ m := by omega
    have w4 : mid ≤ m → r0 ≤ mid := by omega
    have w5 : mid + m ≤ s0 + b := by omega
    have w6 : r0 ≤ mid := by omega
    go_enter Try.func76, Try.ntmps76
    have HC := Lib.hid (And.intro hs0 hr0)
    clear hs0 hr0 w4
    go_wp2_with fail
    go_loopw [20, 21] (fun sv rv wr => ∃ (s r2 : Nat), sv = .int .i64 s ∧ rv = .int .i64 r2 ∧ s0 ≤ s ∧ s ≤ r2 ∧ r2 ≤ r0 ∧ Old W0 wr ∧ Hid ((s0 < s → ∃ y z, L[s - 1 - a]? = some y ∧ R[mid + m - 1 - (s - 1) - m]? = some z ∧ 0 ≤ cmpI z y) ∧ (r2 < r0 → ∃ y z, L[r2 - a]? = some y ∧ R[mid + m - 1 - r2 - m]? = some z ∧ cmpI z y < 0)) ∧ Hid (Seg wr g (H ++ L ++ R ++ T) r)) (fun sv rv _ => (intOf rv).toNat - (intOf sv).toNat)
    case atStart =>
      obtain ⟨c1, c2⟩ := HC.out
      exact ⟨s0, r0, by go_num, by go_num, by omega, by omega, by omega, o, Lib.hid ⟨by omega, by omega⟩, HS⟩
    case round =>
      clear HC
      obtain ⟨s, r2, rfl, rfl, hs1, hs2, hs3, o1, HM, HS1⟩ := hrel
      by_cases hlt : s < r2
      · obtain ⟨c, hc⟩ : ∃ c, c = (s + r2) / 2 := ⟨_, rfl⟩
        have hc1 : s ≤ c := by omega
        have hc2 : c < r2 := by omega
        have hc3 : (((s : Int) + r2) / 2) = (c : Int) := by omega
        clear hc
        obtain ⟨d, hd⟩ : ∃ d, d = mid + m - 1 - c := ⟨_, rfl⟩
        have hd1 : (mid : Int) + m - 1 - c = (d : Int) := by omega
        have hd2 : m ≤ d := by omega
        have hd3 : d < b := by omega
        have hd4 : IntKind.i64.wrap ((mid : Int) + m - 1 - c) = (d : Int) := by rw [hd1, IntKind.wrap_i64]; omega
        have hd5 : IntKind.i64.wrap (d : Int) = (d : Int) := by rw [IntKind.wrap_i64]; omega
        obtain ⟨y, z, HZ⟩ : ∃ y z, Hid (L[c - a]? = some y ∧ R[d - m]? = some z ∧ At5 wr g (d * 5) z ∧ At5 wr g (c * 5) y) := by
          obtain ⟨hn, ha, hm, hb, hL, hR⟩ := HN.out
          have k1 : c - a < L.length := by omega
          have k2 : d - m < R.length := by omega
          have s1 := HS1.out
          refine ⟨L[c - a], R[d - m], Lib.hid ⟨List.getElem?_eq_getElem k1, List.getElem?_eq_getElem k2, seg_in (H := H ++ L) (B := R) (T := T) s1 (List.getElem?_eq_getElem k2) (by simp; omega), seg_in (H := H) (B := L) (T := R ++ T) (by simpa using s1) (List.getElem?_eq_getElem k1) (by omega)⟩⟩
        have HD := Lib.hid hd
        clear hd
        have hS := pr_of HZ.out.2.2.1 HZ.out.2.2.2
        have hb1 : (0 : Int) ≤ (c : Int) := by omega
        have hb2 : (c : Int) < (n : Int) := by omega
        have hb3 : (d : Int) < (n : Int) := by omega
        have hb4 : (0 : Int) ≤ (d : Int) := by omega
        go_wp2_with fail
        go_region_held3 (fun W => Old wr W ∧ W.cell? ⟨g, d * 5, none⟩ = some (.int .i64 z.lev) ∧ W.cell? ⟨g, d * 5 + 1, none⟩ = some (.string (B z.name)) ∧ W.cell? ⟨g, d * 5 + 2, none⟩ = some (.string (B z.low)) ∧ W.cell? ⟨g, d * 5 + 3, none⟩ = some (.string (B z.high)) ∧ W.cell? ⟨g, d * 5 + 4, none⟩ = some (.int .i64 z.many) ∧ W.cell? ⟨g, c * 5, none⟩ = some (.int .i64 y.lev) ∧ W.cell? ⟨g, c * 5 + 1, none⟩ = some (.string (B y.name)) ∧ W.cell? ⟨g, c * 5 + 2, none⟩ = some (.string (B y.low)) ∧ W.cell? ⟨g, c * 5 + 3, none⟩ = some (.string (B y.high)) ∧ W.cell? ⟨g, c * 5 + 4, none⟩ = some (.int .i64 y.many)) (first | exact ⟨hS.1.dr, hS.2⟩ | exact pr_old (by assumption) (by assumption))
          (first
            | (go_at_call 62; with_reducible refine (against_any z y _).mono ?_; rintro r w1 ⟨rfl, h1b⟩))
        rename_i hHeld
        have f9 : Old wr w1 := hHeld.1
        clear hS hHeld h1b
        have HS2 := Lib.hid (HS1.out.old f9)
        have o2 := o1.tr f9
        by_cases hxp : cmpI z y < 0
        · have hdec : decide (cmpI z y < 0) = true := by simpa using hxp
          have HM2 := Lib.hid (show (s0 < s → ∃ y z, L[s - 1 - a]? = some y ∧ R[mid + m - 1 - (s - 1) - m]? = some z ∧ 0 ≤ cmpI z y) ∧ (c < r0 → ∃ y z, L[c - a]? = some y ∧ R[mid + m - 1 - c - m]? = some z ∧ cmpI z y < 0) from ⟨HM.out.1, fun _ => ⟨y, z, HZ.out.1, by rw [← HD.out]; exact HZ.out.2.1, hxp⟩⟩)
          rw [hdec, Bool.not_true]
          clear hdec hxp HS1 HM HZ f9 hb1 hb2 hb3 hb4 hc3 hd1 hd4 hd5 HD
          go_wp2
          go_roundw
          case rel => exact ⟨s, c, by go_num, by go_num, by omega, by omega, by omega, o2, HM2, HS2⟩
          case measure => simp [intOf]; omega
        · have hdec : decide (cmpI z y < 0) = false := by simpa using hxp
          have HM2 := Lib.hid (show (s0 < c + 1 → ∃ y z, L[c + 1 - 1 - a]? = some y ∧ R[mid + m - 1 - (c + 1 - 1) - m]? = some z ∧ 0 ≤ cmpI z y) ∧ (r2 < r0 → ∃ y z, L[r2 - a]? = some y ∧ R[mid + m - 1 - r2 - m]? = some z ∧ cmpI z y < 0) from ⟨fun _ => ⟨y, z, HZ.out.1, by rw [show mid + m - 1 - (c + 1 - 1) = d by have := HD.out; omega]; exact HZ.out.2.1, by omega⟩, HM.out.2⟩)
          rw [hdec, Bool.not_false]
          clear hdec hxp HS1 HM HZ f9 hb1 hb2 hb3 hb4 hc3 hd1 hd4 hd5 HD
          go_wp2
          go_roundw
          case rel => exact ⟨c + 1, r2, by go_num, by go_num, by omega, by omega, by omega, o2, HM2, HS2⟩
          case measure => simp [intOf]; omega
      · obtain rfl : s = r2 := by omega
        obtain ⟨en, hen⟩ : ∃ en, en + s = mid + m := ⟨mid + m - s, by omega⟩
        have he1 : (mid : Int) + m - s = (en : Int) := by omega
        have he2 : m ≤ en := by omega
        have he3 : en ≤ b := by omega
        obtain ⟨A1, A2, B1, B2, HP⟩ : ∃ A1 A2 B1 B2, Hid (L = A1 ++ A2 ∧ R = B1 ++ B2 ∧ A1.length = s - a ∧ A2.length = m - s ∧ B1.length = en - m ∧ B2.length = b - en ∧ (∀ x ∈ B1, ∀ y ∈ A2, cmpI x y < 0) ∧ (∀ x ∈ A1, ∀ y ∈ B2, cmpI x y ≤ 0)) := by
          obtain ⟨hn, ha, hm, hb, hL, hR⟩ := HN.out
          obtain ⟨A1, A2, B1, B2, h⟩ := sym_parts hL hR hm hb hs1 hs3 (by omega) (by omega) hen he2 he3 HW.out HM.out.1 HM.out.2
          exact ⟨A1, A2, B1, B2, Lib.hid h⟩
        clear HM HW hlt hs2
        by_cases hc1 : s < m ∧ s < mid
        · have c1 : s < m ∧ s < mid := hc1
          obtain ⟨c1a, c1b⟩ := c1
          have c1c : m < en := by omega
          go_wp2_with fail
          obtain ⟨hn, ha, hm, hb, hL, hR⟩ := HN.out
          obtain ⟨f1, f2, f3, f4, f5, f6, f7, f8⟩ := HP.out
          refine (rotate_any W0 wr g cap n s m en _ _ _ (H ++ A1) A2 B1 (B2 ++ T) r fA o1 hg (Seg.eq HS1.out (by rw [f1, f2]; simp)) (by rw [hn, f1, f2]; simp) (by simp; omega) (by simp; omega) (by simp; omega) (by omega) (by omega) hmax (by omega) (by omega) (by omega)).mono ?_
          rintro e w1 ⟨⟨u, rfl⟩, o2, s2⟩
          have HS2 : Hid (Seg w1 g (H ++ A1 ++ B1 ++ A2 ++ B2 ++ T) r) := Lib.hid (Seg.eq s2 (by simp))
          clear hn ha hm hb hL hR f1 f2 f3 f4 f5 f6 f7 f8 s2 o1 HS1
          by_cases hc2 : a < s ∧ s < mid
          · obtain ⟨c2a, c2b⟩ := hc2
            try (exfalso; clear HI HN HP HS2 o2; omega)
            all_goals (
            go_wp2_with fail
            obtain ⟨hn, ha, hm, hb, hL, hR⟩ := HN.out
            obtain ⟨f1, f2, f3, f4, f5, f6, f7, f8⟩ := HP.out
            rw [f1] at hL
            rw [f2] at hR
            refine (HI.out w1 a s mid _ _ _ H A1 B1 (A2 ++ B2 ++ T) (by omega) (by omega) (by omega) (List.pairwise_append.1 hL).1 (List.pairwise_append.1 hR).1 o2 (Seg.eq HS2.out (by simp)) (by rw [hn, f1, f2]; simp; omega) (by omega) (by omega) (by omega) (by omega) (by omega) (by omega)).mono ?_
            rintro e w2 ⟨⟨u2, rfl⟩, o3, M1, g1, g2, g3⟩
            have HT : Hid (Sim M1 (A1 ++ B1) ∧ Srt M1 ∧ Seg w2 g (H ++ M1 ++ A2 ++ B2 ++ T) r) := Lib.hid ⟨g1, g2, Seg.eq g3 (by simp)⟩
            clear hn ha hm hb hL hR f1 f2 f3 f4 f5 f6 f7 f8 g1 g2 g3 o2 HS2
            by_cases hc3 : s < m ∧ en < b
            · obtain ⟨c3a, c3b⟩ := hc3
              try (exfalso; clear HI HN HP HT o3; omega)
              all_goals (
              go_wp2_with fail
              obtain ⟨hn, ha, hm, hb, hL, hR⟩ := HN.out
              obtain ⟨f1, f2, f3, f4, f5, f6, f7, f8⟩ := HP.out
              obtain ⟨g1, g2, g3⟩ := HT.out
              have gl := g1.len
              rw [List.length_append] at gl
              rw [f1] at hL
              rw [f2] at hR
              refine (HI.out w2 mid en b _ _ _ (H ++ M1) A2 B2 T (by omega) (by omega) (by omega) (List.pairwise_append.1 hL).2.1 (List.pairwise_append.1 hR).2.1 o3 g3 (by rw [hn, f1, f2]; simp; omega) (by simp; omega) (by omega) (by omega) (by omega) (by omega) (by omega)).mono ?_
              rintro e w3 ⟨⟨u3, rfl⟩, o4, M2, k1, k2, k3⟩
              have HZ : Hid (∃ M, Sim M (L ++ R) ∧ Srt M ∧ Seg w3 g (H ++ M ++ T) r) := by
                obtain ⟨z1, z2⟩ := sym_done f7 f8 hL hR g1 k1 g2 k2
                exact Lib.hid ⟨M1 ++ M2, by rw [f1, f2]; exact z1, z2, Seg.eq k3 (by simp)⟩
              clear hn ha hm hb hL hR f1 f2 f3 f4 f5 f6 f7 f8 g1 g2 g3 k1 k2 k3 gl o3 HT
              go_wp2
              exact bodyPost_end (results_none rfl _ _ _) rfl ⟨⟨_, rfl⟩, o4, HZ.out⟩)
            · have c3 := hc3
              try (exfalso; clear HI HN HP HT o3; omega)
              all_goals (
              have HZ : Hid (∃ M, Sim M (L ++ R) ∧ Srt M ∧ Seg w2 g (H ++ M ++ T) r) := by
                obtain ⟨hn, ha, hm, hb, hL, hR⟩ := HN.out
                obtain ⟨f1, f2, f3, f4, f5, f6, f7, f8⟩ := HP.out
                obtain ⟨g1, g2, g3⟩ := HT.out
                rw [f1] at hL
                rw [f2] at hR
                have k2 : Srt (A2 ++ B2) := srt_one (by
                  by_cases h : s < m
                  · exact .inr (List.eq_nil_of_length_eq_zero (by omega))
                  · exact .inl (List.eq_nil_of_length_eq_zero (by omega))) (List.pairwise_append.1 hL).2.1 (List.pairwise_append.1 hR).2.1
                obtain ⟨z1, z2⟩ := sym_done f7 f8 hL hR g1 (Sim.refl _) g2 k2
                exact Lib.hid ⟨M1 ++ (A2 ++ B2), by rw [f1, f2]; exact z1, z2, Seg.eq g3 (by simp)⟩
              clear HT
              go_wp2
              exact bodyPost_end (results_none rfl _ _ _) rfl ⟨⟨_, rfl⟩, o3, HZ.out⟩))
          · have c2 := hc2
            obtain ⟨M1, HT⟩ : ∃ M1, Hid (Sim M1 (A1 ++ B1) ∧ Srt M1 ∧ Seg w1 g (H ++ M1 ++ A2 ++ B2 ++ T) r) := by
              obtain ⟨hn, ha, hm, hb, hL, hR⟩ := HN.out
              obtain ⟨f1, f2, f3, f4, f5, f6, f7, f8⟩ := HP.out
              rw [f1] at hL
              rw [f2] at hR
              refine ⟨A1 ++ B1, Lib.hid ⟨Sim.refl _, srt_one ?_ (List.pairwise_append.1 hL).1 (List.pairwise_append.1 hR).1, Seg.eq HS2.out (by simp)⟩⟩
              by_cases h : a < s
              · exact .inr (List.eq_nil_of_length_eq_zero (by omega))
              · exact .inl (List.eq_nil_of_length_eq_zero (by omega))
            obtain ⟨w2, o3, hw2⟩ : ∃ w2, Old W0 w2 ∧ w2 = w1 := ⟨w1, o2, rfl⟩
            rw [← hw2] at HT ⊢
            clear HS2 o2 hw2
            by_cases hc3 : s < m ∧ en < b
            · obtain ⟨c3a, c3b⟩ := hc3
              try (exfalso; clear HI HN HP HT o3; omega)
              all_goals (
              go_wp2_with fail
              obtain ⟨hn, ha, hm, hb, hL, hR⟩ := HN.out
              obtain ⟨f1, f2, f3, f4, f5, f6, f7, f8⟩ := HP.out
              obtain ⟨g1, g2, g3⟩ := HT.out
              have gl := g1.len
              rw [List.length_append] at gl
              rw [f1] at hL
              rw [f2] at hR
              refine (HI.out w2 mid en b _ _ _ (H ++ M1) A2 B2 T (by omega) (by omega) (by omega) (List.pairwise_append.1 hL).2.1 (List.pairwise_append.1 hR).2.1 o3 g3 (by rw [hn, f1, f2]; simp; omega) (by simp; omega) (by omega) (by omega) (by omega) (by omega) (by omega)).mono ?_
              rintro e w3 ⟨⟨u3, rfl⟩, o4, M2, k1, k2, k3⟩
              have HZ : Hid (∃ M, Sim M (L ++ R) ∧ Srt M ∧ Seg w3 g (H ++ M ++ T) r) := by
                obtain ⟨z1, z2⟩ := sym_done f7 f8 hL hR g1 k1 g2 k2
                exact Lib.hid ⟨M1 ++ M2, by rw [f1, f2]; exact z1, z2, Seg.eq k3 (by simp)⟩
              clear hn ha hm hb hL hR f1 f2 f3 f4 f5 f6 f7 f8 g1 g2 g3 k1 k2 k3 gl o3 HT
              go_wp2
              exact bodyPost_end (results_none rfl _ _ _) rfl ⟨⟨_, rfl⟩, o4, HZ.out⟩)
            · have c3 := hc3
              try (exfalso; clear HI HN HP HT o3; omega)
              all_goals (
              have HZ : Hid (∃ M, Sim M (L ++ R) ∧ Srt M ∧ Seg w2 g (H ++ M ++ T) r) := by
                obtain ⟨hn, ha, hm, hb, hL, hR⟩ := HN.out
                obtain ⟨f1, f2, f3, f4, f5, f6, f7, f8⟩ := HP.out
                obtain ⟨g1, g2, g3⟩ := HT.out
                rw [f1] at hL
                rw [f2] at hR
                have k2 : Srt (A2 ++ B2) := srt_one (by
                  by_cases h : s < m
                  · exact .inr (List.eq_nil_of_length_eq_zero (by omega))
                  · exact .inl (List.eq_nil_of_length_eq_zero (by omega))) (List.pairwise_append.1 hL).2.1 (List.pairwise_append.1 hR).2.1
                obtain ⟨z1, z2⟩ := sym_done f7 f8 hL hR g1 (Sim.refl _) g2 k2
                exact Lib.hid ⟨M1 ++ (A2 ++ B2), by rw [f1, f2]; exact z1, z2, Seg.eq g3 (by simp)⟩
              clear HT
              go_wp2
              exact bodyPost_end (results_none rfl _ _ _) rfl ⟨⟨_, rfl⟩, o3, HZ.out⟩)
        · have c1 : ¬ (s < m ∧ s < mid) := hc1
          have HS2 : Hid (Seg wr g (H ++ A1 ++ B1 ++ A2 ++ B2 ++ T) r) := by
            obtain ⟨f1, f2, f3, f4, f5, f6, f7, f8⟩ := HP.out
            refine Lib.hid (Seg.eq HS1.out ?_)
            rw [f1, f2]
            by_cases h : s < m
            · have : B1 = [] := List.eq_nil_of_length_eq_zero (by omega)
              subst this; simp
            · have : A2 = [] := List.eq_nil_of_length_eq_zero (by omega)
              subst this; simp
          obtain ⟨w1, o2, hw1⟩ : ∃ w1, Old W0 w1 ∧ w1 = wr := ⟨wr, o1, rfl⟩
          rw [← hw1] at HS2 ⊢
          clear HS1 o1 hw1
          by_cases hc2 : a < s ∧ s < mid
          · obtain ⟨c2a, c2b⟩ := hc2
            try (exfalso; clear HI HN HP HS2 o2; omega)
            all_goals (
            go_wp2_with fail
            obtain ⟨hn, ha, hm, hb, hL, hR⟩ := HN.out
            obtain ⟨f1, f2, f3, f4, f5, f6, f7, f8⟩ := HP.out
            rw [f1] at hL
            rw [f2] at hR
            refine (HI.out w1 a s mid _ _ _ H A1 B1 (A2 ++ B2 ++ T) (by omega) (by omega) (by omega) (List.pairwise_append.1 hL).1 (List.pairwise_append.1 hR).1 o2 (Seg.eq HS2.out (by simp)) (by rw [hn, f1, f2]; simp; omega) (by omega) (by omega) (by omega) (by omega) (by omega) (by omega)).mono ?_
            rintro e w2 ⟨⟨u2, rfl⟩, o3, M1, g1, g2, g3⟩
            have HT : Hid (Sim M1 (A1 ++ B1) ∧ Srt M1 ∧ Seg w2 g (H ++ M1 ++ A2 ++ B2 ++ T) r) := Lib.hid ⟨g1, g2, Seg.eq g3 (by simp)⟩
            clear hn ha hm hb hL hR f1 f2 f3 f4 f5 f6 f7 f8 g1 g2 g3 o2 HS2
            by_cases hc3 : s < m ∧ en < b
            · obtain ⟨c3a, c3b⟩ := hc3
              try (exfalso; clear HI HN HP HT o3; omega)
              all_goals (
              go_wp2_with fail
              obtain ⟨hn, ha, hm, hb, hL, hR⟩ := HN.out
              obtain ⟨f1, f2, f3, f4, f5, f6, f7, f8⟩ := HP.out
              obtain ⟨g1, g2, g3⟩ := HT.out
              have gl := g1.len
              rw [List.length_append] at gl
              rw [f1] at hL
              rw [f2] at hR
              refine (HI.out w2 mid en b _ _ _ (H ++ M1) A2 B2 T (by omega) (by omega) (by omega) (List.pairwise_append.1 hL).2.1 (List.pairwise_append.1 hR).2.1 o3 g3 (by rw [hn, f1, f2]; simp; omega) (by simp; omega) (by omega) (by omega) (by omega) (by omega) (by omega)).mono ?_
              rintro e w3 ⟨⟨u3, rfl⟩, o4, M2, k1, k2, k3⟩
              have HZ : Hid (∃ M, Sim M (L ++ R) ∧ Srt M ∧ Seg w3 g (H ++ M ++ T) r) := by
                obtain ⟨z1, z2⟩ := sym_done f7 f8 hL hR g1 k1 g2 k2
                exact Lib.hid ⟨M1 ++ M2, by rw [f1, f2]; exact z1, z2, Seg.eq k3 (by simp)⟩
              clear hn ha hm hb hL hR f1 f2 f3 f4 f5 f6 f7 f8 g1 g2 g3 k1 k2 k3 gl o3 HT
              go_wp2
              exact bodyPost_end (results_none rfl _ _ _) rfl ⟨⟨_, rfl⟩, o4, HZ.out⟩)
            · have c3 := hc3
              try (exfalso; clear HI HN HP HT o3; omega)
              all_goals (
              have HZ : Hid (∃ M, Sim M (L ++ R) ∧ Srt M ∧ Seg w2 g (H ++ M ++ T) r) := by
                obtain ⟨hn, ha, hm, hb, hL, hR⟩ := HN.out
                obtain ⟨f1, f2, f3, f4, f5, f6, f7, f8⟩ := HP.out
                obtain ⟨g1, g2, g3⟩ := HT.out
                rw [f1] at hL
                rw [f2] at hR
                have k2 : Srt (A2 ++ B2) := srt_one (by
                  by_cases h : s < m
                  · exact .inr (List.eq_nil_of_length_eq_zero (by omega))
                  · exact .inl (List.eq_nil_of_length_eq_zero (by omega))) (List.pairwise_append.1 hL).2.1 (List.pairwise_append.1 hR).2.1
                obtain ⟨z1, z2⟩ := sym_done f7 f8 hL hR g1 (Sim.refl _) g2 k2
                exact Lib.hid ⟨M1 ++ (A2 ++ B2), by rw [f1, f2]; exact z1, z2, Seg.eq g3 (by simp)⟩
              clear HT
              go_wp2
              exact bodyPost_end (results_none rfl _ _ _) rfl ⟨⟨_, rfl⟩, o3, HZ.out⟩))
          · have c2 := hc2
            obtain ⟨M1, HT⟩ : ∃ M1, Hid (Sim M1 (A1 ++ B1) ∧ Srt M1 ∧ Seg w1 g (H ++ M1 ++ A2 ++ B2 ++ T) r) := by
              obtain ⟨hn, ha, hm, hb, hL, hR⟩ := HN.out
              obtain ⟨f1, f2, f3, f4, f5, f6, f7, f8⟩ := HP.out
              rw [f1] at hL
              rw [f2] at hR
              refine ⟨A1 ++ B1, Lib.hid ⟨Sim.refl _, srt_one ?_ (List.pairwise_append.1 hL).1 (List.pairwise_append.1 hR).1, Seg.eq HS2.out (by simp)⟩⟩
              by_cases h : a < s
              · exact .inr (List.eq_nil_of_length_eq_zero (by omega))
              · exact .inl (List.eq_nil_of_length_eq_zero (by omega))
            obtain ⟨w2, o3, hw2⟩ : ∃ w2, Old W0 w2 ∧ w2 = w1 := ⟨w1, o2, rfl⟩
            rw [← hw2] at HT ⊢
            clear HS2 o2 hw2
            by_cases hc3 : s < m ∧ en < b
            · obtain ⟨c3a, c3b⟩ := hc3
              try (exfalso; clear HI HN HP HT o3; omega)
              all_goals (
              go_wp2_with fail
              obtain ⟨hn, ha, hm, hb, hL, hR⟩ := HN.out
              obtain ⟨f1, f2, f3, f4, f5, f6, f7, f8⟩ := HP.out
              obtain ⟨g1, g2, g3⟩ := HT.out
              have gl := g1.len
              rw [List.length_append] at gl
              rw [f1] at hL
              rw [f2] at hR
              refine (HI.out w2 mid en b _ _ _ (H ++ M1) A2 B2 T (by omega) (by omega) (by omega) (List.pairwise_append.1 hL).2.1 (List.pairwise_append.1 hR).2.1 o3 g3 (by rw [hn, f1, f2]; simp; omega) (by simp; omega) (by omega) (by omega) (by omega) (by omega) (by omega)).mono ?_
              rintro e w3 ⟨⟨u3, rfl⟩, o4, M2, k1, k2, k3⟩
              have HZ : Hid (∃ M, Sim M (L ++ R) ∧ Srt M ∧ Seg w3 g (H ++ M ++ T) r) := by
                obtain ⟨z1, z2⟩ := sym_done f7 f8 hL hR g1 k1 g2 k2
                exact Lib.hid ⟨M1 ++ M2, by rw [f1, f2]; exact z1, z2, Seg.eq k3 (by simp)⟩
              clear hn ha hm hb hL hR f1 f2 f3 f4 f5 f6 f7 f8 g1 g2 g3 k1 k2 k3 gl o3 HT
              go_wp2
              exact bodyPost_end (results_none rfl _ _ _) rfl ⟨⟨_, rfl⟩, o4, HZ.out⟩)
            · have c3 := hc3
              try (exfalso; clear HI HN HP HT o3; omega)
              all_goals (
              have HZ : Hid (∃ M, Sim M (L ++ R) ∧ Srt M ∧ Seg w2 g (H ++ M ++ T) r) := by
                obtain ⟨hn, ha, hm, hb, hL, hR⟩ := HN.out
                obtain ⟨f1, f2, f3, f4, f5, f6, f7, f8⟩ := HP.out
                obtain ⟨g1, g2, g3⟩ := HT.out
                rw [f1] at hL
                rw [f2] at hR
                have k2 : Srt (A2 ++ B2) := srt_one (by
                  by_cases h : s < m
                  · exact .inr (List.eq_nil_of_length_eq_zero (by omega))
                  · exact .inl (List.eq_nil_of_length_eq_zero (by omega))) (List.pairwise_append.1 hL).2.1 (List.pairwise_append.1 hR).2.1
                obtain ⟨z1, z2⟩ := sym_done f7 f8 hL hR g1 (Sim.refl _) g2 k2
                exact Lib.hid ⟨M1 ++ (A2 ++ B2), by rw [f1, f2]; exact z1, z2, Seg.eq g3 (by simp)⟩
              clear HT
              go_wp2
              exact bodyPost_end (results_none rfl _ _ _) rfl ⟨⟨_, rfl⟩, o3, HZ.out⟩)
  · obtain ⟨s0, hs0⟩ : ∃ s0, s0 = a := ⟨_, rfl⟩
    obtain ⟨r0, hr0⟩ : ∃ r0, r0 = m := ⟨_, rfl⟩
    have HW : Hid ((s0 + b = mid + m ∧ r0 = mid) ∨ (s0 = a ∧ r0 = m)) := Lib.hid (by omega)
    have w1 : a ≤ s0 := by omega
    have w2 : s0 ≤ r0 := by omega
    have w3 : r0 ≤ m := by omega
    have w4 : mid ≤ m → r0 ≤ mid := by omega
    have w5 : mid + m ≤ s0 + b := by omega
    have w6 : r0 ≤ mid := by omega
    go_enter Try.func76, Try.ntmps76
    have HC := Lib.hid (And.intro hs0 hr0)
    clear hs0 hr0 w4
    go_wp2_with fail
    go_loopw [20, 21] (fun sv rv wr => ∃ (s r2 : Nat), sv = .int .i64 s ∧ rv = .int .i64 r2 ∧ s0 ≤ s ∧ s ≤ r2 ∧ r2 ≤ r0 ∧ Old W0 wr ∧ Hid ((s0 < s → ∃ y z, L[s - 1 - a]? = some y ∧ R[mid + m - 1 - (s - 1) - m]? = some z ∧ 0 ≤ cmpI z y) ∧ (r2 < r0 → ∃ y z, L[r2 - a]? = some y ∧ R[mid + m - 1 - r2 - m]? = some z ∧ cmpI z y < 0)) ∧ Hid (Seg wr g (H ++ L ++ R ++ T) r)) (fun sv rv _ => (intOf rv).toNat - (intOf sv).toNat)
    case atStart =>
      obtain ⟨c1, c2⟩ := HC.out
      exact ⟨s0, r0, by go_num, by go_num, by omega, by omega, by omega, o, Lib.hid ⟨by omega, by omega⟩, HS⟩
    case round =>
      clear HC
      obtain ⟨s, r2, rfl, rfl, hs1, hs2, hs3, o1, HM, HS1⟩ := hrel
      by_cases hlt : s < r2
      · obtain ⟨c, hc⟩ : ∃ c, c = (s + r2) / 2 := ⟨_, rfl⟩
        have hc1 : s ≤ c := by omega
        have hc2 : c < r2 := by omega
        have hc3 : (((s : Int) + r2) / 2) = (c : Int) := by omega
        clear hc
        obtain ⟨d, hd⟩ : ∃ d, d = mid + m - 1 - c := ⟨_, rfl⟩
        have hd1 : (mid : Int) + m - 1 - c = (d : Int) := by omega
        have hd2 : m ≤ d := by omega
        have hd3 : d < b := by omega
        have hd4 : IntKind.i64.wrap ((mid : Int) + m - 1 - c) = (d : Int) := by rw [hd1, IntKind.wrap_i64]; omega
        have hd5 : IntKind.i64.wrap (d : Int) = (d : Int) := by rw [IntKind.wrap_i64]; omega
        obtain ⟨y, z, HZ⟩ : ∃ y z, Hid (L[c - a]? = some y ∧ R[d - m]? = some z ∧ At5 wr g (d * 5) z ∧ At5 wr g (c * 5) y) := by
          obtain ⟨hn, ha, hm, hb, hL, hR⟩ := HN.out
          have k1 : c - a < L.length := by omega
          have k2 : d - m < R.length := by omega
          have s1 := HS1.out
          refine ⟨L[c - a], R[d - m], Lib.hid ⟨List.getElem?_eq_getElem k1, List.getElem?_eq_getElem k2, seg_in (H := H ++ L) (B := R) (T := T) s1 (List.getElem?_eq_getElem k2) (by simp; omega), seg_in (H := H) (B := L) (T := R ++ T) (by simpa using s1) (List.getElem?_eq_getElem k1) (by omega)⟩⟩
        have HD := Lib.hid hd
        clear hd
        have hS := pr_of HZ.out.2.2.1 HZ.out.2.2.2
        have hb1 : (0 : Int) ≤ (c : Int) := by omega
        have hb2 : (c : Int) < (n : Int) := by omega
        have hb3 : (d : Int) < (n : Int) := by omega
        have hb4 : (0 : Int) ≤ (d : Int) := by omega
        go_wp2_with fail
        go_region_held3 (fun W => Old wr W ∧ W.cell? ⟨g, d * 5, none⟩ = some (.int .i64 z.lev) ∧ W.cell? ⟨g, d * 5 + 1, none⟩ = some (.string (B z.name)) ∧ W.cell? ⟨g, d * 5 + 2, none⟩ = some (.string (B z.low)) ∧ W.cell? ⟨g, d * 5 + 3, none⟩ = some (.string (B z.high)) ∧ W.cell? ⟨g, d * 5 + 4, none⟩ = some (.int .i64 z.many) ∧ W.cell? ⟨g, c * 5, none⟩ = some (.int .i64 y.lev) ∧ W.cell? ⟨g, c * 5 + 1, none⟩ = some (.string (B y.name)) ∧ W.cell? ⟨g, c * 5 + 2, none⟩ = some (.string (B y.low)) ∧ W.cell? ⟨g, c * 5 + 3, none⟩ = some (.string (B y.high)) ∧ W.cell? ⟨g, c * 5 + 4, none⟩ = some (.int .i64 y.many)) (first | exact ⟨hS.1.dr, hS.2⟩ | exact pr_old (by assumption) (by assumption))
          (first
            | (go_at_call 62; with_reducible refine (against_any z y _).mono ?_; rintro r w1 ⟨rfl, h1b⟩))
        rename_i hHeld
        have f9 : Old wr w1 := hHeld.1
        clear hS hHeld h1b
        have HS2 := Lib.hid (HS1.out.old f9)
        have o2 := o1.tr f9
        by_cases hxp : cmpI z y < 0
        · have hdec : decide (cmpI z y < 0) = true := by simpa using hxp
          have HM2 := Lib.hid (show (s0 < s → ∃ y z, L[s - 1 - a]? = some y ∧ R[mid + m - 1 - (s - 1) - m]? = some z ∧ 0 ≤ cmpI z y) ∧ (c < r0 → ∃ y z, L[c - a]? = some y ∧ R[mid + m - 1 - c - m]? = some z ∧ cmpI z y < 0) from ⟨HM.out.1, fun _ => ⟨y, z, HZ.out.1, by rw [← HD.out]; exact HZ.out.2.1, hxp⟩⟩)
          rw [hdec, Bool.not_true]
          clear hdec hxp HS1 HM HZ f9 hb1 hb2 hb3 hb4 hc3 hd1 hd4 hd5 HD
          go_wp2
          go_roundw
          case rel => exact ⟨s, c, by go_num, by go_num, by omega, by omega, by omega, o2, HM2, HS2⟩
          case measure => simp [intOf]; omega
        · have hdec : decide (cmpI z y < 0) = false := by simpa using hxp
          have HM2 := Lib.hid (show (s0 < c + 1 → ∃ y z, L[c + 1 - 1 - a]? = some y ∧ R[mid + m - 1 - (c + 1 - 1) - m]? = some z ∧ 0 ≤ cmpI z y) ∧ (r2 < r0 → ∃ y z, L[r2 - a]? = some y ∧ R[mid + m - 1 - r2 - m]? = some z ∧ cmpI z y < 0) from ⟨fun _ => ⟨y, z, HZ.out.1, by rw [show mid + m - 1 - (c + 1 - 1) = d by have := HD.out; omega]; exact HZ.out.2.1, by omega⟩, HM.out.2⟩)
          rw [hdec, Bool.not_false]
          clear hdec hxp HS1 HM HZ f9 hb1 hb2 hb3 hb4 hc3 hd1 hd4 hd5 HD
          go_wp2
          go_roundw
          case rel => exact ⟨c + 1, r2, by go_num, by go_num, by omega, by omega, by omega, o2, HM2, HS2⟩
          case measure => simp [intOf]; omega
      · obtain rfl : s = r2 := by omega
        obtain ⟨en, hen⟩ : ∃ en, en + s = mid + m := ⟨mid + m - s, by omega⟩
        have he1 : (mid : Int) + m - s = (en : Int) := by omega
        have he2 : m ≤ en := by omega
        have he3 : en ≤ b := by omega
        obtain ⟨A1, A2, B1, B2, HP⟩ : ∃ A1 A2 B1 B2, Hid (L = A1 ++ A2 ∧ R = B1 ++ B2 ∧ A1.length = s - a ∧ A2.length = m - s ∧ B1.length = en - m ∧ B2.length = b - en ∧ (∀ x ∈ B1, ∀ y ∈ A2, cmpI x y < 0) ∧ (∀ x ∈ A1, ∀ y ∈ B2, cmpI x y ≤ 0)) := by
          obtain ⟨hn, ha, hm, hb, hL, hR⟩ := HN.out
          obtain ⟨A1, A2, B1, B2, h⟩ := sym_parts hL hR hm hb hs1 hs3 (by omega) (by omega) hen he2 he3 HW.out HM.out.1 HM.out.2
          exact ⟨A1, A2, B1, B2, Lib.hid h⟩
        clear HM HW hlt hs2
        by_cases hc1 : s < m ∧ s < mid
        · have c1 : s < m ∧ s < mid := hc1
          obtain ⟨c1a, c1b⟩ := c1
          have c1c : m < en := by omega
          go_wp2_with fail
          obtain ⟨hn, ha, hm, hb, hL, hR⟩ := HN.out
          obtain ⟨f1, f2, f3, f4, f5, f6, f7, f8⟩ := HP.out
          refine (rotate_any W0 wr g cap n s m en _ _ _ (H ++ A1) A2 B1 (B2 ++ T) r fA o1 hg (Seg.eq HS1.out (by rw [f1, f2]; simp)) (by rw [hn, f1, f2]; simp) (by simp; omega) (by simp; omega) (by simp; omega) (by omega) (by omega) hmax (by omega) (by omega) (by omega)).mono ?_
          rintro e w1 ⟨⟨u, rfl⟩, o2, s2⟩
          have HS2 : Hid (Seg w1 g (H ++ A1 ++ B1 ++ A2 ++ B2 ++ T) r) := Lib.hid (Seg.eq s2 (by simp))
          clear hn ha hm hb hL hR f1 f2 f3 f4 f5 f6 f7 f8 s2 o1 HS1
          by_cases hc2 : a < s ∧ s < mid
          · obtain ⟨c2a, c2b⟩ := hc2
            try (exfalso; clear HI HN HP HS2 o2; omega)
            all_goals (
            go_wp2_with fail
            obtain ⟨hn, ha, hm, hb, hL, hR⟩ := HN.out
            obtain ⟨f1, f2, f3, f4, f5, f6, f7, f8⟩ := HP.out
            rw [f1] at hL
            rw [f2] at hR
            refine (HI.out w1 a s mid _ _ _ H A1 B1 (A2 ++ B2 ++ T) (by omega) (by omega) (by omega) (List.pairwise_append.1 hL).1 (List.pairwise_append.1 hR).1 o2 (Seg.eq HS2.out (by simp)) (by rw [hn, f1, f2]; simp; omega) (by omega) (by omega) (by omega) (by omega) (by omega) (by omega)).mono ?_
            rintro e w2 ⟨⟨u2, rfl⟩, o3, M1, g1, g2, g3⟩
            have HT : Hid (Sim M1 (A1 ++ B1) ∧ Srt M1 ∧ Seg w2 g (H ++ M1 ++ A2 ++ B2 ++ T) r) := Lib.hid ⟨g1, g2, Seg.eq g3 (by simp)⟩
            clear hn ha hm hb hL hR f1 f2 f3 f4 f5 f6 f7 f8 g1 g2 g3 o2 HS2
            by_cases hc3 : s < m ∧ en < b
            · obtain ⟨c3a, c3b⟩ := hc3
              try (exfalso; clear HI HN HP HT o3; omega)
              all_goals (
              go_wp2_with fail
              obtain ⟨hn, ha, hm, hb, hL, hR⟩ := HN.out
              obtain ⟨f1, f2, f3, f4, f5, f6, f7, f8⟩ := HP.out
              obtain ⟨g1, g2, g3⟩ := HT.out
              have gl := g1.len
              rw [List.length_append] at gl
              rw [f1] at hL
              rw [f2] at hR
              refine (HI.out w2 mid en b _ _ _ (H ++ M1) A2 B2 T (by omega) (by omega) (by omega) (List.pairwise_append.1 hL).2.1 (List.pairwise_append.1 hR).2.1 o3 g3 (by rw [hn, f1, f2]; simp; omega) (by simp; omega) (by omega) (by omega) (by omega) (by omega) (by omega)).mono ?_
              rintro e w3 ⟨⟨u3, rfl⟩, o4, M2, k1, k2, k3⟩
              have HZ : Hid (∃ M, Sim M (L ++ R) ∧ Srt M ∧ Seg w3 g (H ++ M ++ T) r) := by
                obtain ⟨z1, z2⟩ := sym_done f7 f8 hL hR g1 k1 g2 k2
                exact Lib.hid ⟨M1 ++ M2, by rw [f1, f2]; exact z1, z2, Seg.eq k3 (by simp)⟩
              clear hn ha hm hb hL hR f1 f2 f3 f4 f5 f6 f7 f8 g1 g2 g3 k1 k2 k3 gl o3 HT
              go_wp2
              exact bodyPost_end (results_none rfl _ _ _) rfl ⟨⟨_, rfl⟩, o4, HZ.out⟩)
            · have c3 := hc3
              try (exfalso; clear HI HN HP HT o3; omega)
              all_goals (
              have HZ : Hid (∃ M, Sim M (L ++ R) ∧ Srt M ∧ Seg w2 g (H ++ M ++ T) r) := by
                obtain ⟨hn, ha, hm, hb, hL, hR⟩ := HN.out
                obtain ⟨f1, f2, f3, f4, f5, f6, f7, f8⟩ := HP.out
                obtain ⟨g1, g2, g3⟩ := HT.out
                rw [f1] at hL
                rw [f2] at hR
                have k2 : Srt (A2 ++ B2) := srt_one (by
                  by_cases h : s < m
                  · exact .inr (List.eq_nil_of_length_eq_zero (by omega))
                  · exact .inl (List.eq_nil_of_length_eq_zero (by omega))) (List.pairwise_append.1 hL).2.1 (List.pairwise_append.1 hR).2.1
                obtain ⟨z1, z2⟩ := sym_done f7 f8 hL hR g1 (Sim.refl _) g2 k2
                exact Lib.hid ⟨M1 ++ (A2 ++ B2), by rw [f1, f2]; exact z1, z2, Seg.eq g3 (by simp)⟩
              clear HT
              go_wp2
              exact bodyPost_end (results_none rfl _ _ _) rfl ⟨⟨_, rfl⟩, o3, HZ.out⟩))
          · have c2 := hc2
            obtain ⟨M1, HT⟩ : ∃ M1, Hid (Sim M1 (A1 ++ B1) ∧ Srt M1 ∧ Seg w1 g (H ++ M1 ++ A2 ++ B2 ++ T) r) := by
              obtain ⟨hn, ha, hm, hb, hL, hR⟩ := HN.out
              obtain ⟨f1, f2, f3, f4, f5, f6, f7, f8⟩ := HP.out
              rw [f1] at hL
              rw [f2] at hR
              refine ⟨A1 ++ B1, Lib.hid ⟨Sim.refl _, srt_one ?_ (List.pairwise_append.1 hL).1 (List.pairwise_append.1 hR).1, Seg.eq HS2.out (by simp)⟩⟩
              by_cases h : a < s
              · exact .inr (List.eq_nil_of_length_eq_zero (by omega))
              · exact .inl (List.eq_nil_of_length_eq_zero (by omega))
            obtain ⟨w2, o3, hw2⟩ : ∃ w2, Old W0 w2 ∧ w2 = w1 := ⟨w1, o2, rfl⟩
            rw [← hw2] at HT ⊢
            clear HS2 o2 hw2
            by_cases hc3 : s < m ∧ en < b
            · obtain ⟨c3a, c3b⟩ := hc3
              try (exfalso; clear HI HN HP HT o3; omega)
              all_goals (
              go_wp2_with fail
              obtain ⟨hn, ha, hm, hb, hL, hR⟩ := HN.out
              obtain ⟨f1, f2, f3, f4, f5, f6, f7, f8⟩ := HP.out
              obtain ⟨g1, g2, g3⟩ := HT.out
              have gl := g1.len
              rw [List.length_append] at gl
              rw [f1] at hL
              rw [f2] at hR
              refine (HI.out w2 mid en b _ _ _ (H ++ M1) A2 B2 T (by omega) (by omega) (by omega) (List.pairwise_append.1 hL).2.1 (List.pairwise_append.1 hR).2.1 o3 g3 (by rw [hn, f1, f2]; simp; omega) (by simp; omega) (by omega) (by omega) (by omega) (by omega) (by omega)).mono ?_
              rintro e w3 ⟨⟨u3, rfl⟩, o4, M2, k1, k2, k3⟩
              have HZ : Hid (∃ M, Sim M (L ++ R) ∧ Srt M ∧ Seg w3 g (H ++ M ++ T) r) := by
                obtain ⟨z1, z2⟩ := sym_done f7 f8 hL hR g1 k1 g2 k2
                exact Lib.hid ⟨M1 ++ M2, by rw [f1, f2]; exact z1, z2, Seg.eq k3 (by simp)⟩
              clear hn ha hm hb hL hR f1 f2 f3 f4 f5 f6 f7 f8 g1 g2 g3 k1 k2 k3 gl o3 HT
              go_wp2
              exact bodyPost_end (results_none rfl _ _ _) rfl ⟨⟨_, rfl⟩, o4, HZ.out⟩)
            · have c3 := hc3
              try (exfalso; clear HI HN HP HT o3; omega)
              all_goals (
              have HZ : Hid (∃ M, Sim M (L ++ R) ∧ Srt M ∧ Seg w2 g (H ++ M ++ T) r) := by
                obtain ⟨hn, ha, hm, hb, hL, hR⟩ := HN.out
                obtain ⟨f1, f2, f3, f4, f5, f6, f7, f8⟩ := HP.out
                obtain ⟨g1, g2, g3⟩ := HT.out
                rw [f1] at hL
                rw [f2] at hR
                have k2 : Srt (A2 ++ B2) := srt_one (by
                  by_cases h : s < m
                  · exact .inr (List.eq_nil_of_length_eq_zero (by omega))
                  · exact .inl (List.eq_nil_of_length_eq_zero (by omega))) (List.pairwise_append.1 hL).2.1 (List.pairwise_append.1 hR).2.1
                obtain ⟨z1, z2⟩ := sym_done f7 f8 hL hR g1 (Sim.refl _) g2 k2
                exact Lib.hid ⟨M1 ++ (A2 ++ B2), by rw [f1, f2]; exact z1, z2, Seg.eq g3 (by simp)⟩
              clear HT
              go_wp2
              exact bodyPost_end (results_none rfl _ _ _) rfl ⟨⟨_, rfl⟩, o3, HZ.out⟩)
        · have c1 : ¬ (s < m ∧ s < mid) := hc1
          have HS2 : Hid (Seg wr g (H ++ A1 ++ B1 ++ A2 ++ B2 ++ T) r) := by
            obtain ⟨f1, f2, f3, f4, f5, f6, f7, f8⟩ := HP.out
            refine Lib.hid (Seg.eq HS1.out ?_)
            rw [f1, f2]
            by_cases h : s < m
            · have : B1 = [] := List.eq_nil_of_length_eq_zero (by omega)
              subst this; simp
            · have : A2 = [] := List.eq_nil_of_length_eq_zero (by omega)
              subst this; simp
          obtain ⟨w1, o2, hw1⟩ : ∃ w1, Old W0 w1 ∧ w1 = wr := ⟨wr, o1, rfl⟩
          rw [← hw1] at HS2 ⊢
          clear HS1 o1 hw1
          by_cases hc2 : a < s ∧ s < mid
          · obtain ⟨c2a, c2b⟩ := hc2
            try (exfalso; clear HI HN HP HS2 o2; omega)
            all_goals (
            go_wp2_with fail
            obtain ⟨hn, ha, hm, hb, hL, hR⟩ := HN.out
            obtain ⟨f1, f2, f3, f4, f5, f6, f7, f8⟩ := HP.out
            rw [f1] at hL
            rw [f2] at hR
            refine (HI.out w1 a s mid _ _ _ H A1 B1 (A2 ++ B2 ++ T) (by omega) (by omega) (by omega) (List.pairwise_append.1 hL).1 (List.pairwise_append.1 hR).1 o2 (Seg.eq HS2.out (by simp)) (by rw [hn, f1, f2]; simp; omega) (by omega) (by omega) (by omega) (by omega) (by omega) (by omega)).mono ?_
            rintro e w2 ⟨⟨u2, rfl⟩, o3, M1, g1, g2, g3⟩
            have HT : Hid (Sim M1 (A1 ++ B1) ∧ Srt M1 ∧ Seg w2 g (H ++ M1 ++ A2 ++ B2 ++ T) r) := Lib.hid ⟨g1, g2, Seg.eq g3 (by simp)⟩
            clear hn ha hm hb hL hR f1 f2 f3 f4 f5 f6 f7 f8 g1 g2 g3 o2 HS2
            by_cases hc3 : s < m ∧ en < b
            · obtain ⟨c3a, c3b⟩ := hc3
              try (exfalso; clear HI HN HP HT o3; omega)
              all_goals (
              go_wp2_with fail
              obtain ⟨hn, ha, hm, hb, hL, hR⟩ := HN.out
              obtain ⟨f1, f2, f3, f4, f5, f6, f7, f8⟩ := HP.out
              obtain ⟨g1, g2, g3⟩ := HT.out
              have gl := g1.len
              rw [List.length_append] at gl
              rw [f1] at hL
              rw [f2] at hR
              refine (HI.out w2 mid en b _ _ _ (H ++ M1) A2 B2 T (by omega) (by omega) (by omega) (List.pairwise_append.1 hL).2.1 (List.pairwise_append.1 hR).2.1 o3 g3 (by rw [hn, f1, f2]; simp; omega) (by simp; omega) (by omega) (by omega) (by omega) (by omega) (by omega)).mono ?_
              rintro e w3 ⟨⟨u3, rfl⟩, o4, M2, k1, k2, k3⟩
              have HZ : Hid (∃ M, Sim M (L ++ R) ∧ Srt M ∧ Seg w3 g (H ++ M ++ T) r) := by
                obtain ⟨z1, z2⟩ := sym_done f7 f8 hL hR g1 k1 g2 k2
                exact Lib.hid ⟨M1 ++ M2, by rw [f1, f2]; exact z1, z2, Seg.eq k3 (by simp)⟩
              clear hn ha hm hb hL hR f1 f2 f3 f4 f5 f6 f7 f8 g1 g2 g3 k1 k2 k3 gl o3 HT
              go_wp2
              exact bodyPost_end (results_none rfl _ _ _) rfl ⟨⟨_, rfl⟩, o4, HZ.out⟩)
            · have c3 := hc3
              try (exfalso; clear HI HN HP HT o3; omega)
              all_goals (
              have HZ : Hid (∃ M, Sim M (L ++ R) ∧ Srt M ∧ Seg w2 g (H ++ M ++ T) r) := by
                obtain ⟨hn, ha, hm, hb, hL, hR⟩ := HN.out
                obtain ⟨f1, f2, f3, f4, f5, f6, f7, f8⟩ := HP.out
                obtain ⟨g1, g2, g3⟩ := HT.out
                rw [f1] at hL
                rw [f2] at hR
                have k2 : Srt (A2 ++ B2) := srt_one (by
                  by_cases h : s < m
                  · exact .inr (List.eq_nil_of_length_eq_zero (by omega))
                  · exact .inl (List.eq_nil_of_length_eq_zero (by omega))) (List.pairwise_append.1 hL).2.1 (List.pairwise_append.1 hR).2.1
                obtain ⟨z1, z2⟩ := sym_done f7 f8 hL hR g1 (Sim.refl _) g2 k2
                exact Lib.hid ⟨M1 ++ (A2 ++ B2), by rw [f1, f2]; exact z1, z2, Seg.eq g3 (by simp)⟩
              clear HT
              go_wp2
              exact bodyPost_end (results_none rfl _ _ _) rfl ⟨⟨_, rfl⟩, o3, HZ.out⟩))
          · have c2 := hc2
            obtain ⟨M1, HT⟩ : ∃ M1, Hid (Sim M1 (A1 ++ B1) ∧ Srt M1 ∧ Seg w1 g (H ++ M1 ++ A2 ++ B2 ++ T) r) := by
              obtain ⟨hn, ha, hm, hb, hL, hR⟩ := HN.out
              obtain ⟨f1, f2, f3, f4, f5, f6, f7, f8⟩ := HP.out
              rw [f1] at hL
              rw [f2] at hR
              refine ⟨A1 ++ B1, Lib.hid ⟨Sim.refl _, srt_one ?_ (List.pairwise_append.1 hL).1 (List.pairwise_append.1 hR).1, Seg.eq HS2.out (by simp)⟩⟩
              by_cases h : a < s
              · exact .inr (List.eq_nil_of_length_eq_zero (by omega))
              · exact .inl (List.eq_nil_of_length_eq_zero (by omega))
            obtain ⟨w2, o3, hw2⟩ : ∃ w2, Old W0 w2 ∧ w2 = w1 := ⟨w1, o2, rfl⟩
            rw [← hw2] at HT ⊢
            clear HS2 o2 hw2
            by_cases hc3 : s < m ∧ en < b
            · obtain ⟨c3a, c3b⟩ := hc3
              try (exfalso; clear HI HN HP HT o3; omega)
              all_goals (
              go_wp2_with fail
              obtain ⟨hn, ha, hm, hb, hL, hR⟩ := HN.out
              obtain ⟨f1, f2, f3, f4, f5, f6, f7, f8⟩ := HP.out
              obtain ⟨g1, g2, g3⟩ := HT.out
              have gl := g1.len
              rw [List.length_append] at gl
              rw [f1] at hL
              rw [f2] at hR
              refine (HI.out w2 mid en b _ _ _ (H ++ M1) A2 B2 T (by omega) (by omega) (by omega) (List.pairwise_append.1 hL).2.1 (List.pairwise_append.1 hR).2.1 o3 g3 (by rw [hn, f1, f2]; simp; omega) (by simp; omega) (by omega) (by omega) (by omega) (by omega) (by omega)).mono ?_
              rintro e w3 ⟨⟨u3, rfl⟩, o4, M2, k1, k2, k3⟩
              have HZ : Hid (∃ M, Sim M (L ++ R) ∧ Srt M ∧ Seg w3 g (H ++ M ++ T) r) := by
                obtain ⟨z1, z2⟩ := sym_done f7 f8 hL hR g1 k1 g2 k2
                exact Lib.hid ⟨M1 ++ M2, by rw [f1, f2]; exact z1, z2, Seg.eq k3 (by simp)⟩
              clear hn ha hm hb hL hR f1 f2 f3 f4 f5 f6 f7 f8 g1 g2 g3 k1 k2 k3 gl o3 HT
              go_wp2
              exact bodyPost_end (results_none rfl _ _ _) rfl ⟨⟨_, rfl⟩, o4, HZ.out⟩)
            · have c3 := hc3
              try (exfalso; clear HI HN HP HT o3; omega)
              all_goals (
              have HZ : Hid (∃ M, Sim M (L ++ R) ∧ Srt M ∧ Seg w2 g (H ++ M ++ T) r) := by
                obtain ⟨hn, ha, hm, hb, hL, hR⟩ := HN.out
                obtain ⟨f1, f2, f3, f4, f5, f6, f7, f8⟩ := HP.out
                obtain ⟨g1, g2, g3⟩ := HT.out
                rw [f1] at hL
                rw [f2] at hR
                have k2 : Srt (A2 ++ B2) := srt_one (by
                  by_cases h : s < m
                  · exact .inr (List.eq_nil_of_length_eq_zero (by omega))
                  · exact .inl (List.eq_nil_of_length_eq_zero (by omega))) (List.pairwise_append.1 hL).2.1 (List.pairwise_append.1 hR).2.1
                obtain ⟨z1, z2⟩ := sym_done f7 f8 hL hR g1 (Sim.refl _) g2 k2
                exact Lib.hid ⟨M1 ++ (A2 ++ B2), by rw [f1, f2]; exact z1, z2, Seg.eq g3 (by simp)⟩
              clear HT
              go_wp2
              exact bodyPost_end (results_none rfl _ _ _) rfl ⟨⟨_, rfl⟩, o3, HZ.out⟩)
end Go.Proofs.Yteglddggjkibcaa
