/-
  insertionSort of a slice of items. Conditions: lengths as written.
-/
import Derived.Test.YteglddggjkibcaaFSwp
namespace Go.Proofs.Yteglddggjkibcaa
open Go.RowKit

theorem cell_old {w w' : World} {b o : Nat} {v : Value} (h : w.cell? ⟨b, o, none⟩ = some v) (k : Old w w') : w'.cell? ⟨b, o, none⟩ = some v := by
  have hb : b < w.heap.size := by
    rcases Nat.lt_or_ge b w.heap.size with h1 | h1
    · exact h1
    · simp [World.cell?, Array.getElem?_eq_none h1] at h
  rw [kept_cell k _ _ hb]
  exact h
/-- Two items that lie here. -/
theorem pr_old {w W W' : World} {g o1 o2 : Nat} {x y : Itm} (h : Old w W ∧ W.cell? ⟨g, o1, none⟩ = some (.int .i64 x.lev) ∧ W.cell? ⟨g, o1 + 1, none⟩ = some (.string (B x.name)) ∧ W.cell? ⟨g, o1 + 2, none⟩ = some (.string (B x.low)) ∧ W.cell? ⟨g, o1 + 3, none⟩ = some (.string (B x.high)) ∧ W.cell? ⟨g, o1 + 4, none⟩ = some (.int .i64 x.many) ∧ W.cell? ⟨g, o2, none⟩ = some (.int .i64 y.lev) ∧ W.cell? ⟨g, o2 + 1, none⟩ = some (.string (B y.name)) ∧ W.cell? ⟨g, o2 + 2, none⟩ = some (.string (B y.low)) ∧ W.cell? ⟨g, o2 + 3, none⟩ = some (.string (B y.high)) ∧ W.cell? ⟨g, o2 + 4, none⟩ = some (.int .i64 y.many)) (k : Old W W') : Old w W' ∧ W'.cell? ⟨g, o1, none⟩ = some (.int .i64 x.lev) ∧ W'.cell? ⟨g, o1 + 1, none⟩ = some (.string (B x.name)) ∧ W'.cell? ⟨g, o1 + 2, none⟩ = some (.string (B x.low)) ∧ W'.cell? ⟨g, o1 + 3, none⟩ = some (.string (B x.high)) ∧ W'.cell? ⟨g, o1 + 4, none⟩ = some (.int .i64 x.many) ∧ W'.cell? ⟨g, o2, none⟩ = some (.int .i64 y.lev) ∧ W'.cell? ⟨g, o2 + 1, none⟩ = some (.string (B y.name)) ∧ W'.cell? ⟨g, o2 + 2, none⟩ = some (.string (B y.low)) ∧ W'.cell? ⟨g, o2 + 3, none⟩ = some (.string (B y.high)) ∧ W'.cell? ⟨g, o2 + 4, none⟩ = some (.int .i64 y.many) := by
  obtain ⟨h0, a0, a1, a2, a3, a4, b0, b1, b2, b3, b4⟩ := h
  exact ⟨h0.tr k, cell_old a0 k, cell_old a1 k, cell_old a2 k, cell_old a3 k, cell_old a4 k, cell_old b0 k, cell_old b1 k, cell_old b2 k, cell_old b3 k, cell_old b4 k⟩
theorem pr_of {w : World} {g o1 o2 : Nat} {x y : Itm} (h : At5 w g o1 x) (k : At5 w g o2 y) : Old w w ∧ w.cell? ⟨g, o1, none⟩ = some (.int .i64 x.lev) ∧ w.cell? ⟨g, o1 + 1, none⟩ = some (.string (B x.name)) ∧ w.cell? ⟨g, o1 + 2, none⟩ = some (.string (B x.low)) ∧ w.cell? ⟨g, o1 + 3, none⟩ = some (.string (B x.high)) ∧ w.cell? ⟨g, o1 + 4, none⟩ = some (.int .i64 x.many) ∧ w.cell? ⟨g, o2, none⟩ = some (.int .i64 y.lev) ∧ w.cell? ⟨g, o2 + 1, none⟩ = some (.string (B y.name)) ∧ w.cell? ⟨g, o2 + 2, none⟩ = some (.string (B y.low)) ∧ w.cell? ⟨g, o2 + 3, none⟩ = some (.string (B y.high)) ∧ w.cell? ⟨g, o2 + 4, none⟩ = some (.int .i64 y.many) := by
  obtain ⟨a0, a1, a2, a3, a4⟩ := h.held
  obtain ⟨b0, b1, b2, b3, b4⟩ := k.held
  exact ⟨Old.re _, a0, a1, a2, a3, a4, b0, b1, b2, b3, b4⟩
/-- The function that tells how two items stand, as a value. -/
abbrev fA : Value := .func (.func 62) #[] #[]

theorem swap_adj {α : Type} (A R : List α) (p x : α) (q : Nat) (hq : q = A.length) :
    (A ++ p :: x :: R)[q]? = some p ∧ (A ++ p :: x :: R)[q + 1]? = some x ∧ ((A ++ p :: x :: R).set (q + 1) p).set q x = A ++ x :: p :: R ∧ ((A ++ p :: x :: R).set q x).set (q + 1) p = A ++ x :: p :: R := by
  subst hq
  simp
theorem adj_sim {A R : List Itm} {p x : Itm} (h : cmpI x p < 0) : Sim (A ++ x :: p :: R) (A ++ p :: x :: R) := by
  have := ((Sim.refl A).app (Sim.rot (a := [p]) (b := [x]) (by simpa using h))).app (Sim.refl R)
  simpa using this
/-- One that came to its place. -/
theorem srt_in {P Q : List Itm} {x : Itm} (h : Srt (P ++ Q)) (hQ : ∀ q ∈ Q, cmpI x q ≤ 0) (hP : ∀ p ∈ P, cmpI p x ≤ 0) : Srt (P ++ x :: Q) := by
  obtain ⟨h1, h2, h3⟩ := List.pairwise_append.1 h
  refine List.pairwise_append.2 ⟨h1, List.pairwise_cons.2 ⟨hQ, h2⟩, fun p hp z hz => ?_⟩
  rcases List.mem_cons.1 hz with rfl | hz
  · exact hP p hp
  · exact h3 p hp z hz
theorem srt_last {P : List Itm} {p x : Itm} (h : Srt (P ++ [p])) (hx : cmpI p x ≤ 0) : ∀ z ∈ P ++ [p], cmpI z x ≤ 0 := by
  intro z hz
  rcases List.mem_append.1 hz with hz | hz
  · exact cmpI_trans ((List.pairwise_append.1 h).2.2 z hz p (by simp)) hx
  · rw [List.mem_singleton.1 hz]; exact hx

set_option maxRecDepth 100000 in
set_option maxHeartbeats 4000000 in
theorem insertion_any (W0 w : World) (g cap n a b : Nat) (av bv : Int) (H M T : List Itm) (r : List Value) (o : Old W0 w) (hg : W0.heap.size ≤ g) (hs : Seg w g (H ++ M ++ T) r)
    (hn : n = (H ++ M ++ T).length) (ha : a = H.length) (hb : b = H.length + M.length) (hmax : n ≤ 100000) (hav : av = a) (hbv : bv = b) :
    Calls Try.prog 75 #[.slice (some ⟨g, 0, none⟩) n cap, .int .i64 av, .int .i64 bv, fA] w fun e w' => (∃ u, e = .returned u) ∧ Old W0 w' ∧ ∃ M', Sim M' M ∧ Srt M' ∧ Seg w' g (H ++ M' ++ T) r := by
  subst hav hbv
  have q1 : a ≤ b := by omega
  have q2 : b ≤ n := by rw [hn]; simp; omega
  have HS := Lib.hid hs
  have HN := Lib.hid (And.intro hn (And.intro ha hb))
  clear hn ha hb hs
  go_enter Try.func75, Try.ntmps75
  go_wp2_with fail
  by_cases h0 : a = b
  · refine wp_loop_rounds 1 ?_
    rw [rounds_succ]
    go_wp2
    refine bodyPost_end (results_none rfl _ _ _) rfl ⟨⟨_, rfl⟩, o, M, Sim.refl _, ?_, HS.out⟩
    obtain ⟨hn, ha, hb⟩ := HN.out
    have : M = [] := List.eq_nil_of_length_eq_zero (by omega)
    subst this
    exact List.Pairwise.nil
  go_loopw [8] (fun iv wr => ∃ (i : Nat) (P R : List Itm), iv = .int .i64 i ∧ a + 1 ≤ i ∧ i ≤ b ∧ Old W0 wr ∧ Hid (P.length = i - a ∧ R.length = b - i ∧ Srt P ∧ Sim (P ++ R) M) ∧ Hid (Seg wr g (H ++ P ++ R ++ T) r)) (fun iv _ => b - (intOf iv).toNat)
  case atStart =>
    obtain ⟨hn, ha, hb⟩ := HN.out
    refine ⟨a + 1, M.take 1, M.drop 1, by go_num, by omega, by omega, o, Lib.hid ⟨by simp; omega, by simp; omega, ?_, ?_⟩, Lib.hid ?_⟩
    · cases M with
      | nil => exact List.Pairwise.nil
      | cons x M => simp
    · rw [List.take_append_drop]; exact Sim.refl _
    · have := HS.out
      rwa [← List.take_append_drop 1 M, ← List.append_assoc H] at this
  case round =>
    obtain ⟨i, P, R, rfl, hi1, hi2, o1, HM, HS1⟩ := hrel
    by_cases hlt : i < b
    · obtain ⟨x, R', HM1, HS2⟩ : ∃ x R', Hid (P.length = i - a ∧ R'.length = b - i - 1 ∧ Srt P ∧ Sim (P ++ x :: R') M) ∧ Hid (Seg wr g (H ++ P ++ x :: R' ++ T) r) := by
        obtain ⟨e1, e2, e3, e4⟩ := HM.out
        cases R with
        | nil => simp at e2; omega
        | cons x R' => exact ⟨x, R', Lib.hid ⟨e1, by simp at e2; omega, e3, e4⟩, HS1⟩
      clear HM HS1 HS
      go_wp2_with fail
      go_loopw [9] (fun jv wr => ∃ (j : Nat) (P Q : List Itm), jv = .int .i64 j ∧ a ≤ j ∧ j ≤ i ∧ Old W0 wr ∧ Hid (j = a + P.length ∧ P.length + Q.length = i - a ∧ R'.length = b - i - 1 ∧ Srt (P ++ Q) ∧ (∀ q ∈ Q, cmpI x q < 0) ∧ Sim (P ++ x :: Q ++ R') M) ∧ Hid (Seg wr g (H ++ P ++ x :: Q ++ R' ++ T) r)) (fun jv _ => (intOf jv).toNat)
      case atStart =>
        obtain ⟨e1, e2, e3, e4⟩ := HM1.out
        exact ⟨i, P, [], rfl, by omega, by omega, o1, Lib.hid ⟨by omega, by simp; omega, e2, by simpa using e3, by simp, by simpa using e4⟩, Lib.hid (by simpa using HS2.out)⟩
      case round =>
        clear HM1 HS2 o1
        obtain ⟨j, P1, Q, rfl, hj1, hj2, o1, HM, HS1⟩ := hrel
        by_cases hj : j = a
        · subst hj
          have HE := Lib.hid (show ∃ P R, P.length = i + 1 - j ∧ R.length = b - (i + 1) ∧ Srt P ∧ Sim (P ++ R) M ∧ Seg wr g (H ++ P ++ R ++ T) r by
            obtain ⟨e1, e2, e3, e4, e5, e6⟩ := HM.out
            have hP : P1 = [] := List.eq_nil_of_length_eq_zero (by omega)
            subst hP
            exact ⟨x :: Q, R', by simp at e2 ⊢; omega, by omega, srt_in (P := []) (by simpa using e4) (fun q hq => Int.le_of_lt (e5 q hq)) (by simp), by simpa using e6, by simpa using HS1.out⟩)
          clear HM HS1
          have hI : decide ((j : Int) < j) = false := by simp
          go_wp2_with fail
          go_quiet (fail)
          go_wp2
          go_roundw
          case rel =>
            obtain ⟨P, R, f1, f2, f3, f4, f5⟩ := HE.out
            exact ⟨i + 1, P, R, by go_num, by omega, by omega, o1.dn _, Lib.hid ⟨f1, f2, f3, f4⟩, Lib.hid f5⟩
          case measure => simp [intOf]; omega
        · obtain ⟨q, rfl⟩ : ∃ q, j = q + 1 := ⟨j - 1, by omega⟩
          obtain ⟨P2, p, HM2⟩ : ∃ P2 p, Hid (P1 = P2 ++ [p] ∧ q = (H ++ P2).length) := by
            obtain ⟨e1, e2, e3, e4, e5, e6⟩ := HM.out
            obtain ⟨hn, ha, hb⟩ := HN.out
            rcases List.eq_nil_or_concat P1 with h | ⟨P2, p, h⟩
            · subst h; simp at e1; omega
            · refine ⟨P2, p, Lib.hid ⟨by simpa using h, ?_⟩⟩
              subst h
              simp at e1 ⊢; omega
          obtain ⟨HX, HSF⟩ : Hid (At5 wr g ((q + 1) * 5) x ∧ At5 wr g (q * 5) p) ∧ Hid (∀ W, Old wr W → Seg (putI (putI W g ((q + 1) * 5) p) g (q * 5) x) g (H ++ P2 ++ x :: (p :: Q) ++ R' ++ T) r) := by
            obtain ⟨rfl, hq⟩ := HM2.out
            have e : H ++ (P2 ++ [p]) ++ x :: Q ++ R' ++ T = (H ++ P2) ++ p :: x :: (Q ++ R' ++ T) := by simp
            have s1 := HS1.out
            rw [e] at s1
            obtain ⟨k1, k2, k3, k4⟩ := swap_adj (H ++ P2) (Q ++ R' ++ T) p x q hq
            refine ⟨Lib.hid ⟨s1.at_ k2, s1.at_ k1⟩, Lib.hid fun W k => ?_⟩
            have e2 : H ++ P2 ++ x :: (p :: Q) ++ R' ++ T = (H ++ P2) ++ x :: p :: (Q ++ R' ++ T) := by simp
            rw [e2, ← k3]
            have l1 := (List.getElem?_eq_some_iff.1 k2).1
            exact ((s1.old k).put l1 p).put (by rw [List.length_set]; omega) x
          have hS := pr_of HX.out.1 HX.out.2
          have hI : decide ((a : Int) < (q : Int) + 1) = true := by simp; omega
          have hw1 : IntKind.i64.wrap ((q : Int) + 1 - 1) = (q : Int) := by rw [IntKind.wrap_i64]; omega
          have hw2 : IntKind.i64.wrap (q : Int) = (q : Int) := by rw [IntKind.wrap_i64]; omega
          have hb1 : (0 : Int) ≤ (q : Int) := by omega
          have hb2 : (q : Int) < (n : Int) := by omega
          have hb3 : (q : Int) + 1 < (n : Int) := by omega
          have hb4 : (0 : Int) ≤ (q : Int) + 1 := by omega
          have hb5 : ((q : Int) + 1).toNat = q + 1 := by omega
          go_wp2_with fail
          go_region_held3 (fun W => Old wr W ∧ W.cell? ⟨g, (q + 1) * 5, none⟩ = some (.int .i64 x.lev) ∧ W.cell? ⟨g, (q + 1) * 5 + 1, none⟩ = some (.string (B x.name)) ∧ W.cell? ⟨g, (q + 1) * 5 + 2, none⟩ = some (.string (B x.low)) ∧ W.cell? ⟨g, (q + 1) * 5 + 3, none⟩ = some (.string (B x.high)) ∧ W.cell? ⟨g, (q + 1) * 5 + 4, none⟩ = some (.int .i64 x.many) ∧ W.cell? ⟨g, q * 5, none⟩ = some (.int .i64 p.lev) ∧ W.cell? ⟨g, q * 5 + 1, none⟩ = some (.string (B p.name)) ∧ W.cell? ⟨g, q * 5 + 2, none⟩ = some (.string (B p.low)) ∧ W.cell? ⟨g, q * 5 + 3, none⟩ = some (.string (B p.high)) ∧ W.cell? ⟨g, q * 5 + 4, none⟩ = some (.int .i64 p.many)) (first | exact ⟨hS.1.dr, hS.2⟩ | exact pr_old (by assumption) (by assumption))
            (first
              | (go_at_call 62; with_reducible refine (against_any x p _).mono ?_; rintro r w1 ⟨rfl, h1b⟩))
          rename_i hHeld
          have f9 : Old wr w1 := hHeld.1
          clear hS hw1 hI hHeld
          by_cases hxp : cmpI x p < 0
          · have hdec : decide (cmpI x p < 0) = true := by simpa using hxp
            have HF := Lib.hid (HSF.out w1 f9).drew
            have HMf : Hid (q = a + P2.length ∧ P2.length + (p :: Q).length = i - a ∧ R'.length = b - i - 1 ∧ Srt (P2 ++ p :: Q) ∧ (∀ z ∈ p :: Q, cmpI x z < 0) ∧ Sim (P2 ++ x :: (p :: Q) ++ R') M) := by
              obtain ⟨rfl, hq⟩ := HM2.out
              obtain ⟨e1, e2, e3, e4, e5, e6⟩ := HM.out
              refine Lib.hid ⟨by simp at e1; omega, by simp at e2 ⊢; omega, e3, by simpa using e4, ?_, ?_⟩
              · intro z hz
                rcases List.mem_cons.1 hz with rfl | hz
                · exact hxp
                · exact e5 z hz
              · refine Sim.trans ?_ e6
                have := adj_sim (A := P2) (R := Q ++ R') hxp
                simpa using this
            have HX1 := Lib.hid (And.intro (HX.out.1.old f9) (HX.out.2.old f9))
            have HFR := Lib.hid (show ∀ z, w1.frozen? ⟨g, z, none⟩ = false from fun z => Bk.fr (HS1.out.old f9) z)
            have o2 := o1.tr f9
            clear HX HSF HS1 HM f9 HM2 hxp h1b
            rw [hdec]
            clear hdec
            go_upto_region 6 with (fail)
            obtain ⟨x0, x1, x2, x3, x4⟩ := HX1.out.1.held
            obtain ⟨y0, y1, y2, y3, y4⟩ := HX1.out.2.held
            have fr := HFR.out
            go_region
            have o3 := ((o2.putI hg ((q + 1) * 5) p).putI hg (q * 5) x).dr
            have hf := HF.out
            unfold putI at o3 hf
            have HG := Lib.hid hf
            clear x0 x1 x2 x3 x4 y0 y1 y2 y3 y4 fr hf HF HX1 HFR
            go_wp2
            go_round
            case rel => exact ⟨q, P2, p :: Q, by go_num, by omega, by omega, o3, HMf, HG⟩
            case measure => simp [intOf]
          · have hdec : decide (cmpI x p < 0) = false := by simpa using hxp
            have o2 := o1.tr f9
            have HE := Lib.hid (show ∃ P R, P.length = i + 1 - a ∧ R.length = b - (i + 1) ∧ Srt P ∧ Sim (P ++ R) M ∧ Seg w1 g (H ++ P ++ R ++ T) r by
              obtain ⟨rfl, hq⟩ := HM2.out
              obtain ⟨e1, e2, e3, e4, e5, e6⟩ := HM.out
              have hxp2 := cmpI_neg x p
              refine ⟨P2 ++ [p] ++ x :: Q, R', by simp at e2 ⊢; omega, by omega, srt_in e4 (fun q hq => Int.le_of_lt (e5 q hq)) (srt_last (List.pairwise_append.1 e4).1 (by omega)), e6, ?_⟩
              have := HS1.out.old f9
              simpa using this)
            clear HX HSF HS1 HM f9 HM2 hxp h1b
            rw [hdec]
            clear hdec
            go_wp2
            go_roundw
            case rel =>
              obtain ⟨P, R, f1, f2, f3, f4, f5⟩ := HE.out
              exact ⟨i + 1, P, R, by go_num, by omega, by omega, o2, Lib.hid ⟨f1, f2, f3, f4⟩, Lib.hid f5⟩
            case measure => simp [intOf]; omega
    · obtain rfl : i = b := by omega
      go_wp2
      refine bodyPost_end (results_none rfl _ _ _) rfl ⟨⟨_, rfl⟩, o1, P, ?_⟩
      obtain ⟨e1, e2, e3, e4⟩ := HM.out
      have hR : R = [] := List.eq_nil_of_length_eq_zero (by omega)
      subst hR
      exact ⟨by simpa using e4, e3, by simpa using HS1.out⟩
end Go.Proofs.Yteglddggjkibcaa
