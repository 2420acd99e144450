/-
  Put of the reference: into cells in order. Conditions: at most 1000 cells, in order.
-/
import Derived.Test.YthanenblcplbhaaMOwn
import Derived.Deep.RegionHeldLaw
namespace Go.Proofs.Ythanenblcplbhaa
set_option maxRecDepth 100000
open Go.RowKit Go.Shelf

theorem any_at {L : List Cel} {k : Nat} {x c : Cel} (hx : L[k]? = some x) (hz : cmpC x c = 0) : (L.any fun d => decide (cmpC d c = 0)) = true :=
  List.any_eq_true.2 ⟨x, List.mem_of_getElem? hx, by simpa using hz⟩
theorem none_at {L : List Cel} (h : Up L) {k : Nat} {c : Cel} (hb : ∀ j y, j < k → L[j]? = some y → cmpC y c = -1) (ha : ∀ x, L[k]? = some x → cmpC x c = 1) : (L.any fun d => decide (cmpC d c = 0)) = false := by
  rw [List.any_eq_false]
  intro d hd hz
  simp only [decide_eq_true_eq] at hz
  obtain ⟨i, hi, rfl⟩ := List.getElem_of_mem hd
  rcases Nat.lt_trichotomy i k with h1 | rfl | h1
  · have := hb i _ h1 (List.getElem?_eq_getElem hi); omega
  · have := ha _ (List.getElem?_eq_getElem hi); omega
  · have hk : k < L.length := by omega
    have h2 := ha _ (List.getElem?_eq_getElem hk)
    have h3 := List.pairwise_iff_getElem.1 (rises_has h c) k i hk hi h1
    simp only at h3
    omega
theorem lput_at {c : Cel} : ∀ {L : List Cel} {k : Nat}, k ≤ L.length → (∀ j y, j < k → L[j]? = some y → cmpC y c = -1) → (∀ x, L[k]? = some x → cmpC x c = 1) → lput c L = L.take k ++ [c] ++ L.drop k
  | [], k, hk, _, _ => by
    have : k = 0 := by simpa using hk
    subst this
    rfl
  | x :: L, 0, _, _, ha => by
    have h1 := ha x rfl
    have h2 := cmpC_neg x c
    rw [lput, if_pos (by omega)]
    rfl
  | x :: L, k + 1, hk, hb, ha => by
    have h1 := hb 0 x (by omega) rfl
    have h2 := cmpC_neg x c
    rw [lput, if_neg (by omega), lput_at (k := k) (by simpa using hk) (fun j y hj hy => hb (j + 1) y (by omega) hy) (fun y hy => ha y hy)]
    rfl
/-- Own cells that are not nil. -/
structure Res (W : World) (base g cap : Nat) (L : List Cel) : Prop where
  own : OwnC W base (.slice (some ⟨g, 0, none⟩) L.length cap) L
theorem own_some {W : World} {base : Nat} {v : Value} {L : List Cel} (h : OwnC W base v L) (hne : L ≠ []) : ∃ g cap, v = .slice (some ⟨g, 0, none⟩) L.length cap := by
  rcases h.2 with ⟨-, h0⟩ | ⟨g, cap, cur, hv, -⟩
  · exact absurd (List.eq_nil_of_length_eq_zero h0) hne
  · exact ⟨g, cap, hv⟩
theorem own_take {W : World} {base g cap : Nat} {L : List Cel} (h : OwnC W base (.slice (some ⟨g, 0, none⟩) L.length cap) L) (k : Nat) (hk : k ≤ L.length) : Cels W (.slice (some ⟨g, 0, none⟩) k cap) (L.take k) := by
  rcases h.cels with ⟨h1, -⟩ | ⟨A, c2, h1, h2, h3⟩
  · cases h1
  · injection h1 with e1 e2 e3
    injection e1 with e1
    subst e1 e3
    refine .inr ⟨⟨g, 0, none⟩, cap, by rw [List.length_take, Nat.min_eq_left hk], by rw [List.length_take]; omega, fun hne => ?_⟩
    obtain ⟨b, off, e, hc⟩ := h3 (by rintro rfl; simp at hne)
    exact ⟨b, off, e, hc.take_ k⟩
theorem own_drop {W : World} {base g cap : Nat} {L : List Cel} (h : OwnC W base (.slice (some ⟨g, 0, none⟩) L.length cap) L) (k : Nat) (hk : k ≤ L.length) : Cels W (.slice (some ⟨g, k * 6, none⟩) (L.length - k) (cap - k)) (L.drop k) := by
  rcases h.cels with ⟨h1, -⟩ | ⟨A, c2, h1, h2, h3⟩
  · cases h1
  · injection h1 with e1 e2 e3
    injection e1 with e1
    subst e1 e3
    refine .inr ⟨⟨g, k * 6, none⟩, cap - k, by rw [List.length_drop], by rw [List.length_drop]; omega, fun hne => ?_⟩
    obtain ⟨b, off, e, hc⟩ := h3 (by rintro rfl; simp at hne)
    injection e with e1 e2
    subst e1 e2
    exact ⟨g, k * 6, rfl, by simpa using hc.drop_ k⟩
theorem own_end {W : World} {base g cap : Nat} {L : List Cel} (_ : OwnC W base (.slice (some ⟨g, 0, none⟩) L.length cap) L) {a : Addr} {c : Nat} : Cels W (.slice (some a) 0 c) (L.drop L.length) := by
  rw [List.drop_length]
  exact .inr ⟨_, _, rfl, Nat.zero_le _, fun h => absurd rfl h⟩
theorem own_cap {W : World} {base g cap : Nat} {L : List Cel} (h : OwnC W base (.slice (some ⟨g, 0, none⟩) L.length cap) L) : L.length ≤ cap := by
  obtain ⟨A, c, e, hc⟩ := h.cels.form
  injection e with _ _ e3
  omega
theorem one_cel {w : World} {g : Nat} {x : Cel} (h : Bk w g 31 (cells x)) : Cels w (.slice (some ⟨g, 0, none⟩) 1 1) [x] := by
  refine .inr ⟨⟨g, 0, none⟩, 1, rfl, Nat.le_refl _, fun _ => ⟨g, 0, rfl, fun i c hc => ?_⟩⟩
  cases i with
  | zero =>
    simp only [List.getElem?_cons_zero, Option.some.injEq] at hc
    subst hc
    exact ⟨h.cell 0, h.cell 1, h.cell 2, h.cell 3, h.cell 4, h.cell 5⟩
  | succ i => simp at hc
theorem putL_no {c : Cel} {L : List Cel} {e : Int} (h : putE c L = e) (he : e ≠ 0) : putL c L = L := by unfold putL; rw [h, if_neg he]

theorem sg_keep {W0 W W' w : World} {c x : Cel} {g k : Nat} (HSX : Hid (∀ (W : World), Old W0 W → (Old W0 W ∧ W.cell? ⟨w.heap.size, 0, none⟩ = some (.string (B c.row)) ∧ W.cell? ⟨w.heap.size, 1, none⟩ = some (.string (B c.col)) ∧ W.cell? ⟨w.heap.size, 2, none⟩ = some (.int .u64 c.ts) ∧ W.cell? ⟨w.heap.size, 3, none⟩ = some (.int .u64 c.seq) ∧ W.cell? ⟨w.heap.size, 4, none⟩ = some (.bool c.del) ∧ W.cell? ⟨w.heap.size, 5, none⟩ = some (.string (B c.val))))) (HAT : Hid (∀ (W : World), Old W0 W → (W.cell? ⟨g, k * 6, none⟩ = some (.string (B x.row)) ∧ W.cell? ⟨g, k * 6 + 1, none⟩ = some (.string (B x.col)) ∧ W.cell? ⟨g, k * 6 + 2, none⟩ = some (.int .u64 x.ts) ∧ W.cell? ⟨g, k * 6 + 3, none⟩ = some (.int .u64 x.seq) ∧ W.cell? ⟨g, k * 6 + 4, none⟩ = some (.bool x.del) ∧ W.cell? ⟨g, k * 6 + 5, none⟩ = some (.string (B x.val))))) (h : Old W0 W ∧ W.cell? ⟨w.heap.size, 0, none⟩ = some (.string (B c.row)) ∧ W.cell? ⟨w.heap.size, 1, none⟩ = some (.string (B c.col)) ∧ W.cell? ⟨w.heap.size, 2, none⟩ = some (.int .u64 c.ts) ∧ W.cell? ⟨w.heap.size, 3, none⟩ = some (.int .u64 c.seq) ∧ W.cell? ⟨w.heap.size, 4, none⟩ = some (.bool c.del) ∧ W.cell? ⟨w.heap.size, 5, none⟩ = some (.string (B c.val)) ∧ W.cell? ⟨g, k * 6, none⟩ = some (.string (B x.row)) ∧ W.cell? ⟨g, k * 6 + 1, none⟩ = some (.string (B x.col)) ∧ W.cell? ⟨g, k * 6 + 2, none⟩ = some (.int .u64 x.ts) ∧ W.cell? ⟨g, k * 6 + 3, none⟩ = some (.int .u64 x.seq) ∧ W.cell? ⟨g, k * 6 + 4, none⟩ = some (.bool x.del) ∧ W.cell? ⟨g, k * 6 + 5, none⟩ = some (.string (B x.val))) (o : Old W W') : Old W0 W' ∧ W'.cell? ⟨w.heap.size, 0, none⟩ = some (.string (B c.row)) ∧ W'.cell? ⟨w.heap.size, 1, none⟩ = some (.string (B c.col)) ∧ W'.cell? ⟨w.heap.size, 2, none⟩ = some (.int .u64 c.ts) ∧ W'.cell? ⟨w.heap.size, 3, none⟩ = some (.int .u64 c.seq) ∧ W'.cell? ⟨w.heap.size, 4, none⟩ = some (.bool c.del) ∧ W'.cell? ⟨w.heap.size, 5, none⟩ = some (.string (B c.val)) ∧ W'.cell? ⟨g, k * 6, none⟩ = some (.string (B x.row)) ∧ W'.cell? ⟨g, k * 6 + 1, none⟩ = some (.string (B x.col)) ∧ W'.cell? ⟨g, k * 6 + 2, none⟩ = some (.int .u64 x.ts) ∧ W'.cell? ⟨g, k * 6 + 3, none⟩ = some (.int .u64 x.seq) ∧ W'.cell? ⟨g, k * 6 + 4, none⟩ = some (.bool x.del) ∧ W'.cell? ⟨g, k * 6 + 5, none⟩ = some (.string (B x.val)) :=
  ⟨(HSX.out W' (h.1.tr o)).1, (HSX.out W' (h.1.tr o)).2.1, (HSX.out W' (h.1.tr o)).2.2.1, (HSX.out W' (h.1.tr o)).2.2.2.1, (HSX.out W' (h.1.tr o)).2.2.2.2.1, (HSX.out W' (h.1.tr o)).2.2.2.2.2.1, (HSX.out W' (h.1.tr o)).2.2.2.2.2.2, HAT.out W' (h.1.tr o)⟩
theorem new_bk' (w : World) (t : TypeId) (cs : Array Value) (g : Nat) (h : g = w.heap.size) : Bk (w.alloc (.cells cs t)) g t cs := by rw [h]; exact new_bk w t cs
set_option maxHeartbeats 16000000 in
theorem rput_any (base g cap : Nat) (L : List Cel) (c : Cel) (w : World) (h : OwnC w base (.slice (some ⟨g, 0, none⟩) L.length cap) L) (hb : base ≤ w.heap.size) (hL : L.length ≤ 1000) (hu : Up L) :
    Calls Try.prog 11 #[.slice (some ⟨g, 0, none⟩) L.length cap, cv c] w fun e w' => ∃ g' cap', e = .returned (.tuple #[.slice (some ⟨g', 0, none⟩) (putL c L).length cap', .int .i64 (putE c L)]) ∧ OwnC w' base (.slice (some ⟨g', 0, none⟩) (putL c L).length cap') (putL c L) ∧ Old w w' := by
  have hcap := own_cap h
  have HO := Lib.hid h
  have HU := Lib.hid hu
  have HBA := Lib.hid hb
  have oA := old_alloc w (.cells (cells c) 31)
  have HK := Lib.hid (new_bk w 31 (cells c))
  have HOA := Lib.hid oA
  have x0 : (w.alloc (.cells (cells c) 31)).cell? ⟨w.heap.size, 0, none⟩ = some (.string (B c.row)) := HK.out.cell 0
  have x1 : (w.alloc (.cells (cells c) 31)).cell? ⟨w.heap.size, 1, none⟩ = some (.string (B c.col)) := HK.out.cell 1
  have x2 : (w.alloc (.cells (cells c) 31)).cell? ⟨w.heap.size, 2, none⟩ = some (.int .u64 c.ts) := HK.out.cell 2
  have x3 : (w.alloc (.cells (cells c) 31)).cell? ⟨w.heap.size, 3, none⟩ = some (.int .u64 c.seq) := HK.out.cell 3
  have x4 : (w.alloc (.cells (cells c) 31)).cell? ⟨w.heap.size, 4, none⟩ = some (.bool c.del) := HK.out.cell 4
  have x5 : (w.alloc (.cells (cells c) 31)).cell? ⟨w.heap.size, 5, none⟩ = some (.string (B c.val)) := HK.out.cell 5
  clear h hu hb oA
  go_enter Try.func11, Try.ntmps11
  go_wp2_with fail
  refine (rmay_any c _).mono ?_
  rintro e W0 ⟨rfl, o1⟩
  cases hm : mayB c with
  | false =>
    have HE := Lib.hid (show putE c L = 1 by unfold putE; rw [if_pos hm])
    have hw := HOA.out.tr o1
    clear hm x0 x1 x2 x3 x4 x5
    go_wp2
    go_ret2
    rw [HE.out, putL_no HE.out (by decide)]
    exact ⟨g, cap, rfl, HO.out.old hw, hw⟩
  | true =>
    have HM := Lib.hid hm
    have HW1 := Lib.hid (HOA.out.tr o1)
    have HK1 := Lib.hid (HK.out.old o1)
    clear hm x0 x1 x2 x3 x4 x5 HK HOA o1
    go_wp2_with fail
    have HSX := Lib.hid fun (W : World) (o : Old W0 W) => (show Old W0 W ∧ W.cell? ⟨w.heap.size, 0, none⟩ = some (.string (B c.row)) ∧ W.cell? ⟨w.heap.size, 1, none⟩ = some (.string (B c.col)) ∧ W.cell? ⟨w.heap.size, 2, none⟩ = some (.int .u64 c.ts) ∧ W.cell? ⟨w.heap.size, 3, none⟩ = some (.int .u64 c.seq) ∧ W.cell? ⟨w.heap.size, 4, none⟩ = some (.bool c.del) ∧ W.cell? ⟨w.heap.size, 5, none⟩ = some (.string (B c.val)) from
      ⟨o, (HK1.out.old o).cell 0, (HK1.out.old o).cell 1, (HK1.out.old o).cell 2, (HK1.out.old o).cell 3, (HK1.out.old o).cell 4, (HK1.out.old o).cell 5⟩)
    go_loopw [6] (fun iv wr => ∃ k : Nat, iv = .int .i64 (k : Int) ∧ k ≤ L.length ∧ Old W0 wr ∧ Hid (∀ j y, j < k → L[j]? = some y → cmpC y c = -1)) (fun iv _ => L.length - (intOf iv).toNat)
    case atStart => exact ⟨0, rfl, Nat.zero_le _, Old.re _, Lib.hid fun j y hj _ => by omega⟩
    case round =>
      obtain ⟨k, rfl, hk, ow, HB⟩ := hrel
      by_cases hlt : k < L.length
      · obtain ⟨x, HX⟩ : ∃ x, Hid (L[k]? = some x) := ⟨L[k], Lib.hid (List.getElem?_eq_getElem hlt)⟩
        have HAT := Lib.hid fun (W : World) (o : Old W0 W) => (show W.cell? ⟨g, k * 6, none⟩ = some (.string (B x.row)) ∧ W.cell? ⟨g, k * 6 + 1, none⟩ = some (.string (B x.col)) ∧ W.cell? ⟨g, k * 6 + 2, none⟩ = some (.int .u64 x.ts) ∧ W.cell? ⟨g, k * 6 + 3, none⟩ = some (.int .u64 x.seq) ∧ W.cell? ⟨g, k * 6 + 4, none⟩ = some (.bool x.del) ∧ W.cell? ⟨g, k * 6 + 5, none⟩ = some (.string (B x.val)) from by
          obtain ⟨b', off', he, hx⟩ := ((HO.out.old (HW1.out.tr o)).cels).at_ HX.out
          simp only [Option.some.injEq, Addr.mk.injEq, and_true] at he
          obtain ⟨rfl, rfl⟩ := he
          obtain ⟨a0, a1, a2, a3, a4, a5⟩ := hx.held
          rw [Nat.zero_add] at a0 a1 a2 a3 a4 a5
          exact ⟨a0, a1, a2, a3, a4, a5⟩)
        have i1 : (0 : Int) ≤ (k : Int) := by omega
        have i2 : (k : Int) < (L.length : Int) := by omega
        have i3 : decide ((k : Int) < (L.length : Int)) = true := decide_eq_true i2
        have hS := And.intro (HSX.out wr ow) (HAT.out wr ow)
        obtain ⟨⟨s9, s0, s1, s2, s3, s4, s5⟩, g0, g1, g2, g3, g4, g5⟩ := hS
        go_wp2_with fail
        go_region_held3 (fun W => Old W0 W ∧ W.cell? ⟨w.heap.size, 0, none⟩ = some (.string (B c.row)) ∧ W.cell? ⟨w.heap.size, 1, none⟩ = some (.string (B c.col)) ∧ W.cell? ⟨w.heap.size, 2, none⟩ = some (.int .u64 c.ts) ∧ W.cell? ⟨w.heap.size, 3, none⟩ = some (.int .u64 c.seq) ∧ W.cell? ⟨w.heap.size, 4, none⟩ = some (.bool c.del) ∧ W.cell? ⟨w.heap.size, 5, none⟩ = some (.string (B c.val)) ∧ W.cell? ⟨g, k * 6, none⟩ = some (.string (B x.row)) ∧ W.cell? ⟨g, k * 6 + 1, none⟩ = some (.string (B x.col)) ∧ W.cell? ⟨g, k * 6 + 2, none⟩ = some (.int .u64 x.ts) ∧ W.cell? ⟨g, k * 6 + 3, none⟩ = some (.int .u64 x.seq) ∧ W.cell? ⟨g, k * 6 + 4, none⟩ = some (.bool x.del) ∧ W.cell? ⟨g, k * 6 + 5, none⟩ = some (.string (B x.val))) (first | exact ⟨ow.dr, s0, s1, s2, s3, s4, s5, g0, g1, g2, g3, g4, g5⟩ | exact sg_keep HSX HAT (by assumption) (by assumption))
          (first
            | (go_at_call 27; with_reducible refine (rcmp_any x c _).mono ?_; rintro r w2 ⟨rfl, k2⟩))
        have f9 : Old W0 w2 := And.left (by assumption)
        have HC := cmpC_vals x c
        clear s9 s0 s1 s2 s3 s4 s5 g0 g1 g2 g3 g4 g5
        by_cases hlt2 : cmpC x c < 0
        · have HB2 := Lib.hid (show ∀ j y, j < k + 1 → L[j]? = some y → cmpC y c = -1 from fun j y hj hy => by
            rcases Nat.lt_or_ge j k with h1 | h1
            · exact HB.out j y h1 hy
            · obtain rfl : j = k := by omega
              rw [HX.out] at hy
              cases hy
              omega)
          have hd : decide (cmpC x c < 0) = true := decide_eq_true hlt2
          clear HC
          go_wp2
          go_roundw
          case rel => exact ⟨k + 1, by go_num, by omega, f9, HB2⟩
          case measure => simp [intOf]; omega
        · have hd : decide (cmpC x c < 0) = false := decide_eq_false hlt2
          have hS := And.intro (HSX.out w2 f9) (HAT.out w2 f9)
          obtain ⟨⟨s9, s0, s1, s2, s3, s4, s5⟩, g0, g1, g2, g3, g4, g5⟩ := hS
          go_wp2_with fail
          go_region_held3 (fun W => Old W0 W ∧ W.cell? ⟨w.heap.size, 0, none⟩ = some (.string (B c.row)) ∧ W.cell? ⟨w.heap.size, 1, none⟩ = some (.string (B c.col)) ∧ W.cell? ⟨w.heap.size, 2, none⟩ = some (.int .u64 c.ts) ∧ W.cell? ⟨w.heap.size, 3, none⟩ = some (.int .u64 c.seq) ∧ W.cell? ⟨w.heap.size, 4, none⟩ = some (.bool c.del) ∧ W.cell? ⟨w.heap.size, 5, none⟩ = some (.string (B c.val)) ∧ W.cell? ⟨g, k * 6, none⟩ = some (.string (B x.row)) ∧ W.cell? ⟨g, k * 6 + 1, none⟩ = some (.string (B x.col)) ∧ W.cell? ⟨g, k * 6 + 2, none⟩ = some (.int .u64 x.ts) ∧ W.cell? ⟨g, k * 6 + 3, none⟩ = some (.int .u64 x.seq) ∧ W.cell? ⟨g, k * 6 + 4, none⟩ = some (.bool x.del) ∧ W.cell? ⟨g, k * 6 + 5, none⟩ = some (.string (B x.val))) (first | exact ⟨f9.dr, s0, s1, s2, s3, s4, s5, g0, g1, g2, g3, g4, g5⟩ | exact sg_keep HSX HAT (by assumption) (by assumption))
            (first
              | (go_at_call 27; with_reducible refine (rcmp_any x c _).mono ?_; rintro r w3 ⟨rfl, k3⟩))
          have f10 : Old W0 w3 := And.left (by assumption)
          clear s9 s0 s1 s2 s3 s4 s5 g0 g1 g2 g3 g4 g5
          by_cases hz : cmpC x c = 0
          · have HE := Lib.hid (show putE c L = 4 by unfold putE; rw [if_neg (by rw [HM.out]; decide), if_pos (any_at HX.out hz)])
            have hd2 : (cmpC x c == 0) = true := by simpa using hz
            have hw := HW1.out.tr f10
            clear hz HC
            go_wp2
            go_ret2
            rw [HE.out, putL_no HE.out (by decide)]
            exact ⟨g, cap, rfl, HO.out.old hw, hw⟩
          · have hd2 : (cmpC x c == 0) = false := by simpa using hz
            have HA := Lib.hid (show ∀ y, L[k]? = some y → cmpC y c = 1 from fun y hy => by rw [HX.out] at hy; cases hy; omega)
            have hmk : (k : Int) ≤ (L.length : Int) := by omega
            have hkc : ¬ cap = k := by omega
            have hck : (k : Int) ≤ (cap : Int) := by omega
            have hcl : (L.length : Int) ≤ (cap : Int) := by omega
            have HE := Lib.hid (show putE c L = 0 by unfold putE; rw [if_neg (by rw [HM.out]; decide), if_neg (by rw [none_at HU.out HB.out HA.out]; decide)])
            have HPL := Lib.hid (show putL c L = lput c L by unfold putL; rw [if_pos HE.out])
            have HLP := Lib.hid (lput_at hk HB.out HA.out)
            clear hz HC hd hlt2 i3
            go_wp2_with fail
            refine wp_region_noPanic ?_
            refine wp_region_held_drew (S := fun W => Old W0 W ∧ W.cell? ⟨w.heap.size, 0, none⟩ = some (.string (B c.row)) ∧ W.cell? ⟨w.heap.size, 1, none⟩ = some (.string (B c.col)) ∧ W.cell? ⟨w.heap.size, 2, none⟩ = some (.int .u64 c.ts) ∧ W.cell? ⟨w.heap.size, 3, none⟩ = some (.int .u64 c.seq) ∧ W.cell? ⟨w.heap.size, 4, none⟩ = some (.bool c.del) ∧ W.cell? ⟨w.heap.size, 5, none⟩ = some (.string (B c.val))) (by kernel_rfl) (HSX.out _ (f10.dr)) (fun hHeld => ?_)
            refine wpAnyH_take (i := 1) (oi := ?op1q1) (v := .slice (some ⟨g, 0, none⟩) L.length cap) ?hp1q1 (by kernel_rfl) (by kernel_rfl) (by kernel_rfl) (fun _ _ _ h => h) ?yp1q1 (by assumption) ?rp1q1
            case hp1q1 => (simp only [List.getElem?_toArray, List.getElem?_cons_zero, List.getElem?_cons_succ]; rfl)
            case yp1q1 => exact Or.inl ⟨by rfl, by (intro W hSw; obtain ⟨s9, s0, s1, s2, s3, s4, s5⟩ := hSw; go_simp)⟩
            simp only [Act.put, List.setIfInBounds_toArray, List.set_cons_zero, List.set_cons_succ]
            refine wpAnyH_take (i := 2) (oi := ?op1q2) (v := .int .i64 (k : Int)) ?hp1q2 (by kernel_rfl) (by kernel_rfl) (by kernel_rfl) (fun _ _ _ h => h) ?yp1q2 (by assumption) ?rp1q2
            case hp1q2 => (simp only [List.getElem?_toArray, List.getElem?_cons_zero, List.getElem?_cons_succ]; rfl)
            case yp1q2 => exact Or.inl ⟨by rfl, by (intro W hSw; obtain ⟨s9, s0, s1, s2, s3, s4, s5⟩ := hSw; go_simp)⟩
            simp only [Act.put, List.setIfInBounds_toArray, List.set_cons_zero, List.set_cons_succ]
            refine wpAnyH_take (i := 3) (oi := ?op1q3) (v := .slice (some ⟨g, 0, none⟩) k cap) ?hp1q3 (by kernel_rfl) (by kernel_rfl) (by kernel_rfl) (fun _ _ _ h => h) ?yp1q3 (by assumption) ?rp1q3
            case hp1q3 => (simp only [List.getElem?_toArray, List.getElem?_cons_zero, List.getElem?_cons_succ]; rfl)
            case yp1q3 => exact Or.inl ⟨by rfl, by (intro W hSw; obtain ⟨s9, s0, s1, s2, s3, s4, s5⟩ := hSw; go_simp)⟩
            simp only [Act.put, List.setIfInBounds_toArray, List.set_cons_zero, List.set_cons_succ]
            refine wpAnyH_take (i := 5) (oi := ?op1q5) (v := cv c) ?hp1q5 (by kernel_rfl) (by kernel_rfl) (by kernel_rfl) (fun _ _ _ h => h) ?yp1q5 (by assumption) ?rp1q5
            case hp1q5 => (simp only [List.getElem?_toArray, List.getElem?_cons_zero, List.getElem?_cons_succ]; rfl)
            case yp1q5 => exact Or.inl ⟨by rfl, by (intro W hSw; obtain ⟨s9, s0, s1, s2, s3, s4, s5⟩ := hSw; go_simp)⟩
            simp only [Act.put, List.setIfInBounds_toArray, List.set_cons_zero, List.set_cons_succ]
            refine wpAnyH_take (i := 8) (oi := ?op1q8) (v := .slice (some ⟨g, 0, none⟩) L.length cap) ?hp1q8 (by kernel_rfl) (by kernel_rfl) (by kernel_rfl) (fun _ _ _ h => h) ?yp1q8 (by assumption) ?rp1q8
            case hp1q8 => (simp only [List.getElem?_toArray, List.getElem?_cons_zero, List.getElem?_cons_succ]; rfl)
            case yp1q8 => exact Or.inl ⟨by rfl, by (intro W hSw; obtain ⟨s9, s0, s1, s2, s3, s4, s5⟩ := hSw; go_simp)⟩
            simp only [Act.put, List.setIfInBounds_toArray, List.set_cons_zero, List.set_cons_succ]
            refine wpAnyH_take (i := 9) (oi := ?op1q9) (v := .int .i64 (k : Int)) ?hp1q9 (by kernel_rfl) (by kernel_rfl) (by kernel_rfl) (fun _ _ _ h => h) ?yp1q9 (by assumption) ?rp1q9
            case hp1q9 => (simp only [List.getElem?_toArray, List.getElem?_cons_zero, List.getElem?_cons_succ]; rfl)
            case yp1q9 => exact Or.inl ⟨by rfl, by (intro W hSw; obtain ⟨s9, s0, s1, s2, s3, s4, s5⟩ := hSw; go_simp)⟩
            simp only [Act.put, List.setIfInBounds_toArray, List.set_cons_zero, List.set_cons_succ]
            refine wpAnyH_take (i := 10) (oi := ?op1q10) (v := .slice (some ⟨g, k * 6, none⟩) (L.length - k) (cap - k)) ?hp1q10 (by kernel_rfl) (by kernel_rfl) (by kernel_rfl) (fun _ _ _ h => h) ?yp1q10 (by assumption) ?rp1q10
            case hp1q10 => (simp only [List.getElem?_toArray, List.getElem?_cons_zero, List.getElem?_cons_succ]; rfl)
            case yp1q10 => exact Or.inl ⟨by rfl, by (intro W hSw; obtain ⟨s9, s0, s1, s2, s3, s4, s5⟩ := hSw; go_simp)⟩
            simp only [Act.put, List.setIfInBounds_toArray, List.set_cons_zero, List.set_cons_succ]
            have hHeld0 := hHeld
            clear hHeld
            have htl : (L.take k).length ≤ 1000 := Nat.le_trans (List.length_take_le' _ _) hL
            have hdl : (L.drop k).length ≤ 1000 := by rw [List.length_drop]; omega
            refine wpAnyH_ready (rs := [0, 6]) (by kernel_rfl) (by simp) ?_
            refine AllReadyH.cons (o := ?ob3q) ?hb3q (fun K hK => ?rb3q) ?mb3q
            case hb3q => (simp only [List.getElem?_toArray, List.getElem?_cons_zero]; rfl)
            case rb3q =>
              go_simp
              refine hK _ _ (HSX.out _ (hHeld0.1.al _)) (fun hHeld1 => ?_)
              clear hK K
              try simp only [Act.put, List.setIfInBounds_toArray, List.set_cons_zero, List.set_cons_succ]
              refine wpAnyH_ready (rs := [4, 6]) (by kernel_rfl) (by simp) ?_
              refine AllReadyH.cons (o := ?ob5q) ?hb5q (fun K hK => ?rb5q) ?mb5q
              case hb5q => (simp only [List.getElem?_toArray, List.getElem?_cons_zero, List.getElem?_cons_succ]; rfl)
              case rb5q =>
                refine step_cels rfl _ rfl (.tmp 40) (.tmp 43) rfl (W0 := W0) (hHeld1.1) (.slice (some ⟨w3.heap.size, 0, none⟩) 0 0) ([]) (L.take k) rfl (OwnC.empty (new_bk w3 _ _) f10.size) _ rfl (own_take (HO.out.old (HW1.out.tr hHeld1.1)) k hk) (by rw [List.length_nil]; omega) ?_
                intro vq2 wq2 nq2 oq2 fq2 rq2
                refine hK _ _ (HSX.out _ oq2) (fun hHeld2 => ?_)
                clear hK K rq2
                try simp only [Act.put, List.setIfInBounds_toArray, List.set_cons_zero, List.set_cons_succ]
                refine wpAnyH_ready (rs := [6]) (by kernel_rfl) (by simp) ?_
                refine AllReadyH.cons (o := ?ob7q) ?hb7q (fun K hK => ?rb7q) ?mb7q
                case hb7q => (simp only [List.getElem?_toArray, List.getElem?_cons_zero, List.getElem?_cons_succ]; rfl)
                case rb7q =>
                  go_simp
                  refine hK _ _ (HSX.out _ (hHeld2.1.al _)) (fun hHeld3 => ?_)
                  clear hK K
                  try simp only [Act.put, List.setIfInBounds_toArray, List.set_cons_zero, List.set_cons_succ]
                  refine wpAnyH_ready (rs := [7]) (by kernel_rfl) (by simp) ?_
                  refine AllReadyH.cons (o := ?ob9q) ?hb9q (fun K hK => ?rb9q) ?mb9q
                  case hb9q => (simp only [List.getElem?_toArray, List.getElem?_cons_zero, List.getElem?_cons_succ]; rfl)
                  case rb9q =>
                    refine step_cels rfl _ rfl (.tmp 44) (.tmp 46) rfl (W0 := W0) (hHeld3.1) (vq2) ([] ++ L.take k) ([c]) rfl (nq2.old (old_alloc _ _)) _ rfl (one_cel (new_bk _ _ _)) (by rw [List.length_append, List.length_nil, List.length_singleton]; omega) ?_
                    intro vq4 wq4 nq4 oq4 fq4 rq4
                    refine hK _ _ (HSX.out _ oq4) (fun hHeld4 => ?_)
                    clear hK K rq4
                    try simp only [Act.put, List.setIfInBounds_toArray, List.set_cons_zero, List.set_cons_succ]
                    refine wpAnyH_ready (rs := [11]) (by kernel_rfl) (by simp) ?_
                    refine AllReadyH.cons (o := ?ob11q) ?hb11q (fun K hK => ?rb11q) ?mb11q
                    case hb11q => (simp only [List.getElem?_toArray, List.getElem?_cons_zero, List.getElem?_cons_succ]; rfl)
                    case rb11q =>
                      refine step_cels rfl _ rfl (.tmp 47) (.tmp 50) rfl (W0 := W0) (oq4) (vq4) ([] ++ L.take k ++ [c]) (L.drop k) rfl (nq4) _ rfl (own_drop (HO.out.old (HW1.out.tr oq4)) k hk) (by rw [List.length_append, List.length_append, List.length_nil, List.length_singleton]; omega) ?_
                      intro vq5 wq5 nq5 oq5 fq5 rq5
                      refine hK _ _ (HSX.out _ oq5) (fun hHeld5 => ?_)
                      clear hK K rq5
                      try simp only [Act.put, List.setIfInBounds_toArray, List.set_cons_zero, List.set_cons_succ]
                      refine wpAnyH_take (i := 12) (oi := ?op11q12) (v := vq5) ?hp11q12 (by kernel_rfl) (by kernel_rfl) (by kernel_rfl) (fun _ _ _ h => h) ?yp11q12 hHeld5 ?rp11q12
                      case hp11q12 => (simp only [List.getElem?_toArray, List.getElem?_cons_zero, List.getElem?_cons_succ]; rfl)
                      case yp11q12 => exact Or.inl ⟨by rfl, by (intro W hSw; obtain ⟨s9, s0, s1, s2, s3, s4, s5⟩ := hSw; go_simp)⟩
                      simp only [Act.put, List.setIfInBounds_toArray, List.set_cons_zero, List.set_cons_succ]
                      refine wpAnyH_take (i := 13) (oi := ?op11q13) (v := .int .i64 0) ?hp11q13 (by kernel_rfl) (by kernel_rfl) (by kernel_rfl) (fun _ _ _ h => h) ?yp11q13 hHeld5 ?rp11q13
                      case hp11q13 => (simp only [List.getElem?_toArray, List.getElem?_cons_zero, List.getElem?_cons_succ]; rfl)
                      case yp11q13 => exact Or.inl ⟨by rfl, by (intro W hSw; obtain ⟨s9, s0, s1, s2, s3, s4, s5⟩ := hSw; go_simp)⟩
                      simp only [Act.put, List.setIfInBounds_toArray, List.set_cons_zero, List.set_cons_succ]
                      refine wpAnyH_done (by kernel_rfl) ?_ _
                      refine NoPanic.normal ?_
                      rw [List.nil_append, ← HLP.out] at nq5
                      obtain ⟨g9, c9, rfl⟩ := own_some nq5 (by rw [HLP.out]; simp)
                      have hw := HW1.out.tr oq5
                      go_wp2
                      go_ret2
                      rw [HE.out, HPL.out]
                      exact ⟨g9, c9, rfl, nq5.from_ (Nat.le_trans HBA.out HW1.out.size), hw⟩
                    exact AllReadyH.nil
                  exact AllReadyH.nil
                exact AllReadyH.nil
              refine AllReadyH.cons (o := ?ob12q) ?hb12q (fun K hK => ?rb12q) ?mb12q
              case hb12q => (simp only [List.getElem?_toArray, List.getElem?_cons_zero, List.getElem?_cons_succ]; rfl)
              case rb12q =>
                go_simp
                refine hK _ _ (HSX.out _ (hHeld1.1.al _)) (fun hHeld2 => ?_)
                clear hK K
                try simp only [Act.put, List.setIfInBounds_toArray, List.set_cons_zero, List.set_cons_succ]
                refine wpAnyH_ready (rs := [4]) (by kernel_rfl) (by simp) ?_
                refine AllReadyH.cons (o := ?ob14q) ?hb14q (fun K hK => ?rb14q) ?mb14q
                case hb14q => (simp only [List.getElem?_toArray, List.getElem?_cons_zero, List.getElem?_cons_succ]; rfl)
                case rb14q =>
                  refine step_cels rfl _ rfl (.tmp 40) (.tmp 43) rfl (W0 := W0) (hHeld2.1) (.slice (some ⟨w3.heap.size, 0, none⟩) 0 0) ([]) (L.take k) rfl ((OwnC.empty (new_bk w3 _ _) f10.size).old (Old.dr (old_alloc _ _))) _ rfl (own_take (HO.out.old (HW1.out.tr hHeld2.1)) k hk) (by rw [List.length_nil]; omega) ?_
                  intro vq3 wq3 nq3 oq3 fq3 rq3
                  refine hK _ _ (HSX.out _ oq3) (fun hHeld3 => ?_)
                  clear hK K rq3
                  try simp only [Act.put, List.setIfInBounds_toArray, List.set_cons_zero, List.set_cons_succ]
                  refine wpAnyH_ready (rs := [7]) (by kernel_rfl) (by simp) ?_
                  refine AllReadyH.cons (o := ?ob16q) ?hb16q (fun K hK => ?rb16q) ?mb16q
                  case hb16q => (simp only [List.getElem?_toArray, List.getElem?_cons_zero, List.getElem?_cons_succ]; rfl)
                  case rb16q =>
                    refine step_cels rfl _ rfl (.tmp 44) (.tmp 46) rfl (W0 := W0) (oq3) (vq3) ([] ++ L.take k) ([c]) rfl (nq3) _ rfl (one_cel (Bk.grown (Bk.drew (new_bk' (w3.alloc (.cells #[] 31)) 31 (cells c) (w3.heap.size + 1) (by simp))) fq3 (by simp [Value.ownBlock]))) (by rw [List.length_append, List.length_nil, List.length_singleton]; omega) ?_
                    intro vq4 wq4 nq4 oq4 fq4 rq4
                    refine hK _ _ (HSX.out _ oq4) (fun hHeld4 => ?_)
                    clear hK K rq4
                    try simp only [Act.put, List.setIfInBounds_toArray, List.set_cons_zero, List.set_cons_succ]
                    refine wpAnyH_ready (rs := [11]) (by kernel_rfl) (by simp) ?_
                    refine AllReadyH.cons (o := ?ob18q) ?hb18q (fun K hK => ?rb18q) ?mb18q
                    case hb18q => (simp only [List.getElem?_toArray, List.getElem?_cons_zero, List.getElem?_cons_succ]; rfl)
                    case rb18q =>
                      refine step_cels rfl _ rfl (.tmp 47) (.tmp 50) rfl (W0 := W0) (oq4) (vq4) ([] ++ L.take k ++ [c]) (L.drop k) rfl (nq4) _ rfl (own_drop (HO.out.old (HW1.out.tr oq4)) k hk) (by rw [List.length_append, List.length_append, List.length_nil, List.length_singleton]; omega) ?_
                      intro vq5 wq5 nq5 oq5 fq5 rq5
                      refine hK _ _ (HSX.out _ oq5) (fun hHeld5 => ?_)
                      clear hK K rq5
                      try simp only [Act.put, List.setIfInBounds_toArray, List.set_cons_zero, List.set_cons_succ]
                      refine wpAnyH_take (i := 12) (oi := ?op18q12) (v := vq5) ?hp18q12 (by kernel_rfl) (by kernel_rfl) (by kernel_rfl) (fun _ _ _ h => h) ?yp18q12 hHeld5 ?rp18q12
                      case hp18q12 => (simp only [List.getElem?_toArray, List.getElem?_cons_zero, List.getElem?_cons_succ]; rfl)
                      case yp18q12 => exact Or.inl ⟨by rfl, by (intro W hSw; obtain ⟨s9, s0, s1, s2, s3, s4, s5⟩ := hSw; go_simp)⟩
                      simp only [Act.put, List.setIfInBounds_toArray, List.set_cons_zero, List.set_cons_succ]
                      refine wpAnyH_take (i := 13) (oi := ?op18q13) (v := .int .i64 0) ?hp18q13 (by kernel_rfl) (by kernel_rfl) (by kernel_rfl) (fun _ _ _ h => h) ?yp18q13 hHeld5 ?rp18q13
                      case hp18q13 => (simp only [List.getElem?_toArray, List.getElem?_cons_zero, List.getElem?_cons_succ]; rfl)
                      case yp18q13 => exact Or.inl ⟨by rfl, by (intro W hSw; obtain ⟨s9, s0, s1, s2, s3, s4, s5⟩ := hSw; go_simp)⟩
                      simp only [Act.put, List.setIfInBounds_toArray, List.set_cons_zero, List.set_cons_succ]
                      refine wpAnyH_done (by kernel_rfl) ?_ _
                      refine NoPanic.normal ?_
                      rw [List.nil_append, ← HLP.out] at nq5
                      obtain ⟨g9, c9, rfl⟩ := own_some nq5 (by rw [HLP.out]; simp)
                      have hw := HW1.out.tr oq5
                      go_wp2
                      go_ret2
                      rw [HE.out, HPL.out]
                      exact ⟨g9, c9, rfl, nq5.from_ (Nat.le_trans HBA.out HW1.out.size), hw⟩
                    exact AllReadyH.nil
                  exact AllReadyH.nil
                exact AllReadyH.nil
              exact AllReadyH.nil
            refine AllReadyH.cons (o := ?ob19q) ?hb19q (fun K hK => ?rb19q) ?mb19q
            case hb19q => (simp only [List.getElem?_toArray, List.getElem?_cons_zero, List.getElem?_cons_succ]; rfl)
            case rb19q =>
              go_simp
              refine hK _ _ (HSX.out _ (hHeld0.1.al _)) (fun hHeld1 => ?_)
              clear hK K
              try simp only [Act.put, List.setIfInBounds_toArray, List.set_cons_zero, List.set_cons_succ]
              refine wpAnyH_ready (rs := [0]) (by kernel_rfl) (by simp) ?_
              refine AllReadyH.cons (o := ?ob21q) ?hb21q (fun K hK => ?rb21q) ?mb21q
              case hb21q => (simp only [List.getElem?_toArray, List.getElem?_cons_zero]; rfl)
              case rb21q =>
                go_simp
                refine hK _ _ (HSX.out _ (hHeld1.1.al _)) (fun hHeld2 => ?_)
                clear hK K
                try simp only [Act.put, List.setIfInBounds_toArray, List.set_cons_zero, List.set_cons_succ]
                refine wpAnyH_ready (rs := [4]) (by kernel_rfl) (by simp) ?_
                refine AllReadyH.cons (o := ?ob23q) ?hb23q (fun K hK => ?rb23q) ?mb23q
                case hb23q => (simp only [List.getElem?_toArray, List.getElem?_cons_zero, List.getElem?_cons_succ]; rfl)
                case rb23q =>
                  refine step_cels rfl _ rfl (.tmp 40) (.tmp 43) rfl (W0 := W0) (hHeld2.1) (.slice (some ⟨w3.heap.size + 1, 0, none⟩) 0 0) ([]) (L.take k) rfl (OwnC.empty (new_bk' (w3.alloc (.cells (cells c) 31)) 31 #[] (w3.heap.size + 1) (by simp)) (Nat.le_trans f10.size (by simp))) _ rfl (own_take (HO.out.old (HW1.out.tr hHeld2.1)) k hk) (by rw [List.length_nil]; omega) ?_
                  intro vq3 wq3 nq3 oq3 fq3 rq3
                  refine hK _ _ (HSX.out _ oq3) (fun hHeld3 => ?_)
                  clear hK K rq3
                  try simp only [Act.put, List.setIfInBounds_toArray, List.set_cons_zero, List.set_cons_succ]
                  refine wpAnyH_ready (rs := [7]) (by kernel_rfl) (by simp) ?_
                  refine AllReadyH.cons (o := ?ob25q) ?hb25q (fun K hK => ?rb25q) ?mb25q
                  case hb25q => (simp only [List.getElem?_toArray, List.getElem?_cons_zero, List.getElem?_cons_succ]; rfl)
                  case rb25q =>
                    refine step_cels rfl _ rfl (.tmp 44) (.tmp 46) rfl (W0 := W0) (oq3) (vq3) ([] ++ L.take k) ([c]) rfl (nq3) _ rfl (one_cel (Bk.grown (Bk.drew ((new_bk w3 31 (cells c)).alloc _)) fq3 (by simp [Value.ownBlock]))) (by rw [List.length_append, List.length_nil, List.length_singleton]; omega) ?_
                    intro vq4 wq4 nq4 oq4 fq4 rq4
                    refine hK _ _ (HSX.out _ oq4) (fun hHeld4 => ?_)
                    clear hK K rq4
                    try simp only [Act.put, List.setIfInBounds_toArray, List.set_cons_zero, List.set_cons_succ]
                    refine wpAnyH_ready (rs := [11]) (by kernel_rfl) (by simp) ?_
                    refine AllReadyH.cons (o := ?ob27q) ?hb27q (fun K hK => ?rb27q) ?mb27q
                    case hb27q => (simp only [List.getElem?_toArray, List.getElem?_cons_zero, List.getElem?_cons_succ]; rfl)
                    case rb27q =>
                      refine step_cels rfl _ rfl (.tmp 47) (.tmp 50) rfl (W0 := W0) (oq4) (vq4) ([] ++ L.take k ++ [c]) (L.drop k) rfl (nq4) _ rfl (own_drop (HO.out.old (HW1.out.tr oq4)) k hk) (by rw [List.length_append, List.length_append, List.length_nil, List.length_singleton]; omega) ?_
                      intro vq5 wq5 nq5 oq5 fq5 rq5
                      refine hK _ _ (HSX.out _ oq5) (fun hHeld5 => ?_)
                      clear hK K rq5
                      try simp only [Act.put, List.setIfInBounds_toArray, List.set_cons_zero, List.set_cons_succ]
                      refine wpAnyH_take (i := 12) (oi := ?op27q12) (v := vq5) ?hp27q12 (by kernel_rfl) (by kernel_rfl) (by kernel_rfl) (fun _ _ _ h => h) ?yp27q12 hHeld5 ?rp27q12
                      case hp27q12 => (simp only [List.getElem?_toArray, List.getElem?_cons_zero, List.getElem?_cons_succ]; rfl)
                      case yp27q12 => exact Or.inl ⟨by rfl, by (intro W hSw; obtain ⟨s9, s0, s1, s2, s3, s4, s5⟩ := hSw; go_simp)⟩
                      simp only [Act.put, List.setIfInBounds_toArray, List.set_cons_zero, List.set_cons_succ]
                      refine wpAnyH_take (i := 13) (oi := ?op27q13) (v := .int .i64 0) ?hp27q13 (by kernel_rfl) (by kernel_rfl) (by kernel_rfl) (fun _ _ _ h => h) ?yp27q13 hHeld5 ?rp27q13
                      case hp27q13 => (simp only [List.getElem?_toArray, List.getElem?_cons_zero, List.getElem?_cons_succ]; rfl)
                      case yp27q13 => exact Or.inl ⟨by rfl, by (intro W hSw; obtain ⟨s9, s0, s1, s2, s3, s4, s5⟩ := hSw; go_simp)⟩
                      simp only [Act.put, List.setIfInBounds_toArray, List.set_cons_zero, List.set_cons_succ]
                      refine wpAnyH_done (by kernel_rfl) ?_ _
                      refine NoPanic.normal ?_
                      rw [List.nil_append, ← HLP.out] at nq5
                      obtain ⟨g9, c9, rfl⟩ := own_some nq5 (by rw [HLP.out]; simp)
                      have hw := HW1.out.tr oq5
                      go_wp2
                      go_ret2
                      rw [HE.out, HPL.out]
                      exact ⟨g9, c9, rfl, nq5.from_ (Nat.le_trans HBA.out HW1.out.size), hw⟩
                    exact AllReadyH.nil
                  exact AllReadyH.nil
                exact AllReadyH.nil
              exact AllReadyH.nil
            exact AllReadyH.nil
      · obtain rfl : k = L.length := by omega
        have HA := Lib.hid (show ∀ y, L[L.length]? = some y → cmpC y c = 1 from fun y hy => by simp at hy)
        have hck : (L.length : Int) ≤ (cap : Int) := by omega
        have HE := Lib.hid (show putE c L = 0 by unfold putE; rw [if_neg (by rw [HM.out]; decide), if_neg (by rw [none_at HU.out HB.out HA.out]; decide)])
        have HPL := Lib.hid (show putL c L = lput c L by unfold putL; rw [if_pos HE.out])
        have HLP := Lib.hid (lput_at hk HB.out HA.out)
        go_wp2_with fail
        refine wp_region_noPanic ?_
        refine wp_region_held_drew (S := fun W => Old W0 W ∧ W.cell? ⟨w.heap.size, 0, none⟩ = some (.string (B c.row)) ∧ W.cell? ⟨w.heap.size, 1, none⟩ = some (.string (B c.col)) ∧ W.cell? ⟨w.heap.size, 2, none⟩ = some (.int .u64 c.ts) ∧ W.cell? ⟨w.heap.size, 3, none⟩ = some (.int .u64 c.seq) ∧ W.cell? ⟨w.heap.size, 4, none⟩ = some (.bool c.del) ∧ W.cell? ⟨w.heap.size, 5, none⟩ = some (.string (B c.val))) (by kernel_rfl) (HSX.out _ (ow.dr)) (fun hHeld => ?_)
        refine wpAnyH_take (i := 0) (oi := ?op28q0) (v := .int .i64 (L.length : Int)) ?hp28q0 (by kernel_rfl) (by kernel_rfl) (by kernel_rfl) (fun _ _ _ h => h) ?yp28q0 (by assumption) ?rp28q0
        case hp28q0 => (simp only [List.getElem?_toArray, List.getElem?_cons_zero]; rfl)
        case yp28q0 => exact Or.inl ⟨by rfl, by (intro W hSw; obtain ⟨s9, s0, s1, s2, s3, s4, s5⟩ := hSw; go_simp)⟩
        simp only [Act.put, List.setIfInBounds_toArray, List.set_cons_zero, List.set_cons_succ]
        refine wpAnyH_take (i := 1) (oi := ?op28q1) (v := .slice (some ⟨g, 0, none⟩) L.length cap) ?hp28q1 (by kernel_rfl) (by kernel_rfl) (by kernel_rfl) (fun _ _ _ h => h) ?yp28q1 (by assumption) ?rp28q1
        case hp28q1 => (simp only [List.getElem?_toArray, List.getElem?_cons_zero, List.getElem?_cons_succ]; rfl)
        case yp28q1 => exact Or.inl ⟨by rfl, by (intro W hSw; obtain ⟨s9, s0, s1, s2, s3, s4, s5⟩ := hSw; go_simp)⟩
        simp only [Act.put, List.setIfInBounds_toArray, List.set_cons_zero, List.set_cons_succ]
        refine wpAnyH_take (i := 2) (oi := ?op28q2) (v := .int .i64 (L.length : Int)) ?hp28q2 (by kernel_rfl) (by kernel_rfl) (by kernel_rfl) (fun _ _ _ h => h) ?yp28q2 (by assumption) ?rp28q2
        case hp28q2 => (simp only [List.getElem?_toArray, List.getElem?_cons_zero, List.getElem?_cons_succ]; rfl)
        case yp28q2 => exact Or.inl ⟨by rfl, by (intro W hSw; obtain ⟨s9, s0, s1, s2, s3, s4, s5⟩ := hSw; go_simp)⟩
        simp only [Act.put, List.setIfInBounds_toArray, List.set_cons_zero, List.set_cons_succ]
        refine wpAnyH_take (i := 3) (oi := ?op28q3) (v := .bool false) ?hp28q3 (by kernel_rfl) (by kernel_rfl) (by kernel_rfl) (fun _ _ _ h => h) ?yp28q3 (by assumption) ?rp28q3
        case hp28q3 => (simp only [List.getElem?_toArray, List.getElem?_cons_zero, List.getElem?_cons_succ]; rfl)
        case yp28q3 => exact Or.inl ⟨by rfl, by (intro W hSw; obtain ⟨s9, s0, s1, s2, s3, s4, s5⟩ := hSw; go_simp)⟩
        simp only [Act.put, List.setIfInBounds_toArray, List.set_cons_zero, List.set_cons_succ]
        refine wpAnyH_take (i := 4) (oi := ?op28q4) (v := .bool false) ?hp28q4 (by kernel_rfl) (by kernel_rfl) (by kernel_rfl) (fun _ _ _ h => h) ?yp28q4 (by assumption) ?rp28q4
        case hp28q4 => (simp only [List.getElem?_toArray, List.getElem?_cons_zero, List.getElem?_cons_succ]; rfl)
        case yp28q4 => exact Or.inl ⟨by rfl, by (intro W hSw; obtain ⟨s9, s0, s1, s2, s3, s4, s5⟩ := hSw; go_simp)⟩
        simp only [Act.put, List.setIfInBounds_toArray, List.set_cons_zero, List.set_cons_succ]
        refine wpAnyH_take (i := 5) (oi := ?op28q5) (v := undef) ?hp28q5 (by kernel_rfl) (by kernel_rfl) (by kernel_rfl) (fun _ _ _ h => h) ?yp28q5 (by assumption) ?rp28q5
        case hp28q5 => (simp only [List.getElem?_toArray, List.getElem?_cons_zero, List.getElem?_cons_succ]; rfl)
        case yp28q5 => exact Or.inr ⟨by rfl, rfl⟩
        simp only [Act.put, List.setIfInBounds_toArray, List.set_cons_zero, List.set_cons_succ]
        refine wpAnyH_take (i := 6) (oi := ?op28q6) (v := undef) ?hp28q6 (by kernel_rfl) (by kernel_rfl) (by kernel_rfl) (fun _ _ _ h => h) ?yp28q6 (by assumption) ?rp28q6
        case hp28q6 => (simp only [List.getElem?_toArray, List.getElem?_cons_zero, List.getElem?_cons_succ]; rfl)
        case yp28q6 => exact Or.inr ⟨by rfl, rfl⟩
        simp only [Act.put, List.setIfInBounds_toArray, List.set_cons_zero, List.set_cons_succ]
        refine wpAnyH_take (i := 7) (oi := ?op28q7) (v := undef) ?hp28q7 (by kernel_rfl) (by kernel_rfl) (by kernel_rfl) (fun _ _ _ h => h) ?yp28q7 (by assumption) ?rp28q7
        case hp28q7 => (simp only [List.getElem?_toArray, List.getElem?_cons_zero, List.getElem?_cons_succ]; rfl)
        case yp28q7 => exact Or.inr ⟨by rfl, rfl⟩
        simp only [Act.put, List.setIfInBounds_toArray, List.set_cons_zero, List.set_cons_succ]
        refine wpAnyH_take (i := 8) (oi := ?op28q8) (v := undef) ?hp28q8 (by kernel_rfl) (by kernel_rfl) (by kernel_rfl) (fun _ _ _ h => h) ?yp28q8 (by assumption) ?rp28q8
        case hp28q8 => (simp only [List.getElem?_toArray, List.getElem?_cons_zero, List.getElem?_cons_succ]; rfl)
        case yp28q8 => exact Or.inr ⟨by rfl, rfl⟩
        simp only [Act.put, List.setIfInBounds_toArray, List.set_cons_zero, List.set_cons_succ]
        refine wpAnyH_take (i := 9) (oi := ?op28q9) (v := undef) ?hp28q9 (by kernel_rfl) (by kernel_rfl) (by kernel_rfl) (fun _ _ _ h => h) ?yp28q9 (by assumption) ?rp28q9
        case hp28q9 => (simp only [List.getElem?_toArray, List.getElem?_cons_zero, List.getElem?_cons_succ]; rfl)
        case yp28q9 => exact Or.inr ⟨by rfl, rfl⟩
        simp only [Act.put, List.setIfInBounds_toArray, List.set_cons_zero, List.set_cons_succ]
        refine wpAnyH_take (i := 10) (oi := ?op28q10) (v := undef) ?hp28q10 (by kernel_rfl) (by kernel_rfl) (by kernel_rfl) (fun _ _ _ h => h) ?yp28q10 (by assumption) ?rp28q10
        case hp28q10 => (simp only [List.getElem?_toArray, List.getElem?_cons_zero, List.getElem?_cons_succ]; rfl)
        case yp28q10 => exact Or.inr ⟨by rfl, rfl⟩
        simp only [Act.put, List.setIfInBounds_toArray, List.set_cons_zero, List.set_cons_succ]
        refine wpAnyH_take (i := 11) (oi := ?op28q11) (v := undef) ?hp28q11 (by kernel_rfl) (by kernel_rfl) (by kernel_rfl) (fun _ _ _ h => h) ?yp28q11 (by assumption) ?rp28q11
        case hp28q11 => (simp only [List.getElem?_toArray, List.getElem?_cons_zero, List.getElem?_cons_succ]; rfl)
        case yp28q11 => exact Or.inr ⟨by rfl, rfl⟩
        simp only [Act.put, List.setIfInBounds_toArray, List.set_cons_zero, List.set_cons_succ]
        refine wpAnyH_take (i := 12) (oi := ?op28q12) (v := .bool false) ?hp28q12 (by kernel_rfl) (by kernel_rfl) (by kernel_rfl) (fun _ _ _ h => h) ?yp28q12 (by assumption) ?rp28q12
        case hp28q12 => (simp only [List.getElem?_toArray, List.getElem?_cons_zero, List.getElem?_cons_succ]; rfl)
        case yp28q12 => exact Or.inl ⟨by rfl, by (intro W hSw; obtain ⟨s9, s0, s1, s2, s3, s4, s5⟩ := hSw; go_simp)⟩
        simp only [Act.put, List.setIfInBounds_toArray, List.set_cons_zero, List.set_cons_succ]
        refine wpAnyH_done (by kernel_rfl) ?_ _
        refine NoPanic.normal ?_
        go_wp2_with fail
        refine wp_region_noPanic ?_
        refine wp_region_held_drew (S := fun W => Old W0 W ∧ W.cell? ⟨w.heap.size, 0, none⟩ = some (.string (B c.row)) ∧ W.cell? ⟨w.heap.size, 1, none⟩ = some (.string (B c.col)) ∧ W.cell? ⟨w.heap.size, 2, none⟩ = some (.int .u64 c.ts) ∧ W.cell? ⟨w.heap.size, 3, none⟩ = some (.int .u64 c.seq) ∧ W.cell? ⟨w.heap.size, 4, none⟩ = some (.bool c.del) ∧ W.cell? ⟨w.heap.size, 5, none⟩ = some (.string (B c.val))) (by kernel_rfl) (HSX.out _ (ow.dr.dr)) (fun hHeld => ?_)
        refine wpAnyH_take (i := 0) (oi := ?op29q0) (v := .int .i64 (L.length : Int)) ?hp29q0 (by kernel_rfl) (by kernel_rfl) (by kernel_rfl) (fun _ _ _ h => h) ?yp29q0 (by assumption) ?rp29q0
        case hp29q0 => (simp only [List.getElem?_toArray, List.getElem?_cons_zero]; rfl)
        case yp29q0 => exact Or.inl ⟨by rfl, by (intro W hSw; obtain ⟨s9, s0, s1, s2, s3, s4, s5⟩ := hSw; go_simp)⟩
        simp only [Act.put, List.setIfInBounds_toArray, List.set_cons_zero, List.set_cons_succ]
        refine wpAnyH_take (i := 1) (oi := ?op29q1) (v := .slice (some ⟨g, 0, none⟩) L.length cap) ?hp29q1 (by kernel_rfl) (by kernel_rfl) (by kernel_rfl) (fun _ _ _ h => h) ?yp29q1 (by assumption) ?rp29q1
        case hp29q1 => (simp only [List.getElem?_toArray, List.getElem?_cons_zero, List.getElem?_cons_succ]; rfl)
        case yp29q1 => exact Or.inl ⟨by rfl, by (intro W hSw; obtain ⟨s9, s0, s1, s2, s3, s4, s5⟩ := hSw; go_simp)⟩
        simp only [Act.put, List.setIfInBounds_toArray, List.set_cons_zero, List.set_cons_succ]
        refine wpAnyH_take (i := 2) (oi := ?op29q2) (v := .int .i64 (L.length : Int)) ?hp29q2 (by kernel_rfl) (by kernel_rfl) (by kernel_rfl) (fun _ _ _ h => h) ?yp29q2 (by assumption) ?rp29q2
        case hp29q2 => (simp only [List.getElem?_toArray, List.getElem?_cons_zero, List.getElem?_cons_succ]; rfl)
        case yp29q2 => exact Or.inl ⟨by rfl, by (intro W hSw; obtain ⟨s9, s0, s1, s2, s3, s4, s5⟩ := hSw; go_simp)⟩
        simp only [Act.put, List.setIfInBounds_toArray, List.set_cons_zero, List.set_cons_succ]
        refine wpAnyH_take (i := 3) (oi := ?op29q3) (v := .bool false) ?hp29q3 (by kernel_rfl) (by kernel_rfl) (by kernel_rfl) (fun _ _ _ h => h) ?yp29q3 (by assumption) ?rp29q3
        case hp29q3 => (simp only [List.getElem?_toArray, List.getElem?_cons_zero, List.getElem?_cons_succ]; rfl)
        case yp29q3 => exact Or.inl ⟨by rfl, by (intro W hSw; obtain ⟨s9, s0, s1, s2, s3, s4, s5⟩ := hSw; go_simp)⟩
        simp only [Act.put, List.setIfInBounds_toArray, List.set_cons_zero, List.set_cons_succ]
        refine wpAnyH_take (i := 4) (oi := ?op29q4) (v := .bool false) ?hp29q4 (by kernel_rfl) (by kernel_rfl) (by kernel_rfl) (fun _ _ _ h => h) ?yp29q4 (by assumption) ?rp29q4
        case hp29q4 => (simp only [List.getElem?_toArray, List.getElem?_cons_zero, List.getElem?_cons_succ]; rfl)
        case yp29q4 => exact Or.inl ⟨by rfl, by (intro W hSw; obtain ⟨s9, s0, s1, s2, s3, s4, s5⟩ := hSw; go_simp)⟩
        simp only [Act.put, List.setIfInBounds_toArray, List.set_cons_zero, List.set_cons_succ]
        refine wpAnyH_take (i := 5) (oi := ?op29q5) (v := undef) ?hp29q5 (by kernel_rfl) (by kernel_rfl) (by kernel_rfl) (fun _ _ _ h => h) ?yp29q5 (by assumption) ?rp29q5
        case hp29q5 => (simp only [List.getElem?_toArray, List.getElem?_cons_zero, List.getElem?_cons_succ]; rfl)
        case yp29q5 => exact Or.inr ⟨by rfl, rfl⟩
        simp only [Act.put, List.setIfInBounds_toArray, List.set_cons_zero, List.set_cons_succ]
        refine wpAnyH_take (i := 6) (oi := ?op29q6) (v := undef) ?hp29q6 (by kernel_rfl) (by kernel_rfl) (by kernel_rfl) (fun _ _ _ h => h) ?yp29q6 (by assumption) ?rp29q6
        case hp29q6 => (simp only [List.getElem?_toArray, List.getElem?_cons_zero, List.getElem?_cons_succ]; rfl)
        case yp29q6 => exact Or.inr ⟨by rfl, rfl⟩
        simp only [Act.put, List.setIfInBounds_toArray, List.set_cons_zero, List.set_cons_succ]
        refine wpAnyH_take (i := 7) (oi := ?op29q7) (v := undef) ?hp29q7 (by kernel_rfl) (by kernel_rfl) (by kernel_rfl) (fun _ _ _ h => h) ?yp29q7 (by assumption) ?rp29q7
        case hp29q7 => (simp only [List.getElem?_toArray, List.getElem?_cons_zero, List.getElem?_cons_succ]; rfl)
        case yp29q7 => exact Or.inr ⟨by rfl, rfl⟩
        simp only [Act.put, List.setIfInBounds_toArray, List.set_cons_zero, List.set_cons_succ]
        refine wpAnyH_take (i := 8) (oi := ?op29q8) (v := undef) ?hp29q8 (by kernel_rfl) (by kernel_rfl) (by kernel_rfl) (fun _ _ _ h => h) ?yp29q8 (by assumption) ?rp29q8
        case hp29q8 => (simp only [List.getElem?_toArray, List.getElem?_cons_zero, List.getElem?_cons_succ]; rfl)
        case yp29q8 => exact Or.inr ⟨by rfl, rfl⟩
        simp only [Act.put, List.setIfInBounds_toArray, List.set_cons_zero, List.set_cons_succ]
        refine wpAnyH_take (i := 9) (oi := ?op29q9) (v := undef) ?hp29q9 (by kernel_rfl) (by kernel_rfl) (by kernel_rfl) (fun _ _ _ h => h) ?yp29q9 (by assumption) ?rp29q9
        case hp29q9 => (simp only [List.getElem?_toArray, List.getElem?_cons_zero, List.getElem?_cons_succ]; rfl)
        case yp29q9 => exact Or.inr ⟨by rfl, rfl⟩
        simp only [Act.put, List.setIfInBounds_toArray, List.set_cons_zero, List.set_cons_succ]
        refine wpAnyH_take (i := 10) (oi := ?op29q10) (v := undef) ?hp29q10 (by kernel_rfl) (by kernel_rfl) (by kernel_rfl) (fun _ _ _ h => h) ?yp29q10 (by assumption) ?rp29q10
        case hp29q10 => (simp only [List.getElem?_toArray, List.getElem?_cons_zero, List.getElem?_cons_succ]; rfl)
        case yp29q10 => exact Or.inr ⟨by rfl, rfl⟩
        simp only [Act.put, List.setIfInBounds_toArray, List.set_cons_zero, List.set_cons_succ]
        refine wpAnyH_take (i := 11) (oi := ?op29q11) (v := undef) ?hp29q11 (by kernel_rfl) (by kernel_rfl) (by kernel_rfl) (fun _ _ _ h => h) ?yp29q11 (by assumption) ?rp29q11
        case hp29q11 => (simp only [List.getElem?_toArray, List.getElem?_cons_zero, List.getElem?_cons_succ]; rfl)
        case yp29q11 => exact Or.inr ⟨by rfl, rfl⟩
        simp only [Act.put, List.setIfInBounds_toArray, List.set_cons_zero, List.set_cons_succ]
        refine wpAnyH_take (i := 12) (oi := ?op29q12) (v := .bool false) ?hp29q12 (by kernel_rfl) (by kernel_rfl) (by kernel_rfl) (fun _ _ _ h => h) ?yp29q12 (by assumption) ?rp29q12
        case hp29q12 => (simp only [List.getElem?_toArray, List.getElem?_cons_zero, List.getElem?_cons_succ]; rfl)
        case yp29q12 => exact Or.inl ⟨by rfl, by (intro W hSw; obtain ⟨s9, s0, s1, s2, s3, s4, s5⟩ := hSw; go_simp)⟩
        simp only [Act.put, List.setIfInBounds_toArray, List.set_cons_zero, List.set_cons_succ]
        refine wpAnyH_done (by kernel_rfl) ?_ _
        refine NoPanic.normal ?_
        go_wp2_with fail
        have ow8 := ow.dr.dr
        generalize wr.drew.drew = W8 at ow8 ⊢
        obtain ⟨a9, hif⟩ : ∃ a : Addr, (if cap = L.length then some (⟨g, 0, none⟩ : Addr) else some ⟨g, L.length * 6, none⟩) = some a := by split <;> exact ⟨_, rfl⟩
        refine wp_region_noPanic ?_
        refine wp_region_held_drew (S := fun W => Old W0 W ∧ W.cell? ⟨w.heap.size, 0, none⟩ = some (.string (B c.row)) ∧ W.cell? ⟨w.heap.size, 1, none⟩ = some (.string (B c.col)) ∧ W.cell? ⟨w.heap.size, 2, none⟩ = some (.int .u64 c.ts) ∧ W.cell? ⟨w.heap.size, 3, none⟩ = some (.int .u64 c.seq) ∧ W.cell? ⟨w.heap.size, 4, none⟩ = some (.bool c.del) ∧ W.cell? ⟨w.heap.size, 5, none⟩ = some (.string (B c.val))) (by kernel_rfl) (HSX.out _ (ow8.dr)) (fun hHeld => ?_)
        refine wpAnyH_take (i := 1) (oi := ?op30q1) (v := .slice (some ⟨g, 0, none⟩) L.length cap) ?hp30q1 (by kernel_rfl) (by kernel_rfl) (by kernel_rfl) (fun _ _ _ h => h) ?yp30q1 (by assumption) ?rp30q1
        case hp30q1 => (simp only [List.getElem?_toArray, List.getElem?_cons_zero, List.getElem?_cons_succ]; rfl)
        case yp30q1 => exact Or.inl ⟨by rfl, by (intro W hSw; obtain ⟨s9, s0, s1, s2, s3, s4, s5⟩ := hSw; go_simp)⟩
        simp only [Act.put, List.setIfInBounds_toArray, List.set_cons_zero, List.set_cons_succ]
        refine wpAnyH_take (i := 2) (oi := ?op30q2) (v := .int .i64 (L.length : Int)) ?hp30q2 (by kernel_rfl) (by kernel_rfl) (by kernel_rfl) (fun _ _ _ h => h) ?yp30q2 (by assumption) ?rp30q2
        case hp30q2 => (simp only [List.getElem?_toArray, List.getElem?_cons_zero, List.getElem?_cons_succ]; rfl)
        case yp30q2 => exact Or.inl ⟨by rfl, by (intro W hSw; obtain ⟨s9, s0, s1, s2, s3, s4, s5⟩ := hSw; go_simp)⟩
        simp only [Act.put, List.setIfInBounds_toArray, List.set_cons_zero, List.set_cons_succ]
        refine wpAnyH_take (i := 3) (oi := ?op30q3) (v := .slice (some ⟨g, 0, none⟩) L.length cap) ?hp30q3 (by kernel_rfl) (by kernel_rfl) (by kernel_rfl) (fun _ _ _ h => h) ?yp30q3 (by assumption) ?rp30q3
        case hp30q3 => (simp only [List.getElem?_toArray, List.getElem?_cons_zero, List.getElem?_cons_succ]; rfl)
        case yp30q3 => exact Or.inl ⟨by rfl, by (intro W hSw; obtain ⟨s9, s0, s1, s2, s3, s4, s5⟩ := hSw; go_simp)⟩
        simp only [Act.put, List.setIfInBounds_toArray, List.set_cons_zero, List.set_cons_succ]
        refine wpAnyH_take (i := 5) (oi := ?op30q5) (v := cv c) ?hp30q5 (by kernel_rfl) (by kernel_rfl) (by kernel_rfl) (fun _ _ _ h => h) ?yp30q5 (by assumption) ?rp30q5
        case hp30q5 => (simp only [List.getElem?_toArray, List.getElem?_cons_zero, List.getElem?_cons_succ]; rfl)
        case yp30q5 => exact Or.inl ⟨by rfl, by (intro W hSw; obtain ⟨s9, s0, s1, s2, s3, s4, s5⟩ := hSw; go_simp)⟩
        simp only [Act.put, List.setIfInBounds_toArray, List.set_cons_zero, List.set_cons_succ]
        refine wpAnyH_take (i := 8) (oi := ?op30q8) (v := .slice (some ⟨g, 0, none⟩) L.length cap) ?hp30q8 (by kernel_rfl) (by kernel_rfl) (by kernel_rfl) (fun _ _ _ h => h) ?yp30q8 (by assumption) ?rp30q8
        case hp30q8 => (simp only [List.getElem?_toArray, List.getElem?_cons_zero, List.getElem?_cons_succ]; rfl)
        case yp30q8 => exact Or.inl ⟨by rfl, by (intro W hSw; obtain ⟨s9, s0, s1, s2, s3, s4, s5⟩ := hSw; go_simp)⟩
        simp only [Act.put, List.setIfInBounds_toArray, List.set_cons_zero, List.set_cons_succ]
        refine wpAnyH_take (i := 9) (oi := ?op30q9) (v := .int .i64 (L.length : Int)) ?hp30q9 (by kernel_rfl) (by kernel_rfl) (by kernel_rfl) (fun _ _ _ h => h) ?yp30q9 (by assumption) ?rp30q9
        case hp30q9 => (simp only [List.getElem?_toArray, List.getElem?_cons_zero, List.getElem?_cons_succ]; rfl)
        case yp30q9 => exact Or.inl ⟨by rfl, by (intro W hSw; obtain ⟨s9, s0, s1, s2, s3, s4, s5⟩ := hSw; go_simp)⟩
        simp only [Act.put, List.setIfInBounds_toArray, List.set_cons_zero, List.set_cons_succ]
        refine wpAnyH_take (i := 10) (oi := ?op30q10) (v := .slice (some a9) 0 (cap - L.length)) ?hp30q10 (by kernel_rfl) (by kernel_rfl) (by kernel_rfl) (fun _ _ _ h => h) ?yp30q10 (by assumption) ?rp30q10
        case hp30q10 => (simp only [List.getElem?_toArray, List.getElem?_cons_zero, List.getElem?_cons_succ]; rfl)
        case yp30q10 => exact Or.inl ⟨by rfl, by (intro W hSw; obtain ⟨s9, s0, s1, s2, s3, s4, s5⟩ := hSw; go_simp)⟩
        simp only [Act.put, List.setIfInBounds_toArray, List.set_cons_zero, List.set_cons_succ]
        have hHeld0 := hHeld
        clear hHeld
        have htl : (L.take L.length).length ≤ 1000 := Nat.le_trans (List.length_take_le' _ _) hL
        have hdl : (L.drop L.length).length ≤ 1000 := by rw [List.length_drop]; omega
        refine wpAnyH_ready (rs := [0, 6]) (by kernel_rfl) (by simp) ?_
        refine AllReadyH.cons (o := ?ob32q) ?hb32q (fun K hK => ?rb32q) ?mb32q
        case hb32q => (simp only [List.getElem?_toArray, List.getElem?_cons_zero]; rfl)
        case rb32q =>
          go_simp
          refine hK _ _ (HSX.out _ (hHeld0.1.al _)) (fun hHeld1 => ?_)
          clear hK K
          try simp only [Act.put, List.setIfInBounds_toArray, List.set_cons_zero, List.set_cons_succ]
          refine wpAnyH_ready (rs := [4, 6]) (by kernel_rfl) (by simp) ?_
          refine AllReadyH.cons (o := ?ob34q) ?hb34q (fun K hK => ?rb34q) ?mb34q
          case hb34q => (simp only [List.getElem?_toArray, List.getElem?_cons_zero, List.getElem?_cons_succ]; rfl)
          case rb34q =>
            refine step_cels rfl _ rfl (.tmp 40) (.tmp 43) rfl (W0 := W0) (hHeld1.1) (.slice (some ⟨W8.heap.size, 0, none⟩) 0 0) ([]) (L.take L.length) rfl (OwnC.empty (new_bk W8 _ _) ow8.size) _ rfl (own_take (HO.out.old (HW1.out.tr hHeld1.1)) L.length hk) (by rw [List.length_nil]; omega) ?_
            intro vq2 wq2 nq2 oq2 fq2 rq2
            refine hK _ _ (HSX.out _ oq2) (fun hHeld2 => ?_)
            clear hK K rq2
            try simp only [Act.put, List.setIfInBounds_toArray, List.set_cons_zero, List.set_cons_succ]
            refine wpAnyH_ready (rs := [6]) (by kernel_rfl) (by simp) ?_
            refine AllReadyH.cons (o := ?ob36q) ?hb36q (fun K hK => ?rb36q) ?mb36q
            case hb36q => (simp only [List.getElem?_toArray, List.getElem?_cons_zero, List.getElem?_cons_succ]; rfl)
            case rb36q =>
              go_simp
              refine hK _ _ (HSX.out _ (hHeld2.1.al _)) (fun hHeld3 => ?_)
              clear hK K
              try simp only [Act.put, List.setIfInBounds_toArray, List.set_cons_zero, List.set_cons_succ]
              refine wpAnyH_ready (rs := [7]) (by kernel_rfl) (by simp) ?_
              refine AllReadyH.cons (o := ?ob38q) ?hb38q (fun K hK => ?rb38q) ?mb38q
              case hb38q => (simp only [List.getElem?_toArray, List.getElem?_cons_zero, List.getElem?_cons_succ]; rfl)
              case rb38q =>
                refine step_cels rfl _ rfl (.tmp 44) (.tmp 46) rfl (W0 := W0) (hHeld3.1) (vq2) ([] ++ L.take L.length) ([c]) rfl (nq2.old (old_alloc _ _)) _ rfl (one_cel (new_bk _ _ _)) (by rw [List.length_append, List.length_nil, List.length_singleton]; omega) ?_
                intro vq4 wq4 nq4 oq4 fq4 rq4
                refine hK _ _ (HSX.out _ oq4) (fun hHeld4 => ?_)
                clear hK K rq4
                try simp only [Act.put, List.setIfInBounds_toArray, List.set_cons_zero, List.set_cons_succ]
                refine wpAnyH_ready (rs := [11]) (by kernel_rfl) (by simp) ?_
                refine AllReadyH.cons (o := ?ob40q) ?hb40q (fun K hK => ?rb40q) ?mb40q
                case hb40q => (simp only [List.getElem?_toArray, List.getElem?_cons_zero, List.getElem?_cons_succ]; rfl)
                case rb40q =>
                  refine step_cels rfl _ rfl (.tmp 47) (.tmp 50) rfl (W0 := W0) (oq4) (vq4) ([] ++ L.take L.length ++ [c]) (L.drop L.length) rfl (nq4) _ rfl (own_end (HO.out.old (HW1.out.tr oq4))) (by rw [List.length_append, List.length_append, List.length_nil, List.length_singleton]; omega) ?_
                  intro vq5 wq5 nq5 oq5 fq5 rq5
                  refine hK _ _ (HSX.out _ oq5) (fun hHeld5 => ?_)
                  clear hK K rq5
                  try simp only [Act.put, List.setIfInBounds_toArray, List.set_cons_zero, List.set_cons_succ]
                  refine wpAnyH_take (i := 12) (oi := ?op40q12) (v := vq5) ?hp40q12 (by kernel_rfl) (by kernel_rfl) (by kernel_rfl) (fun _ _ _ h => h) ?yp40q12 hHeld5 ?rp40q12
                  case hp40q12 => (simp only [List.getElem?_toArray, List.getElem?_cons_zero, List.getElem?_cons_succ]; rfl)
                  case yp40q12 => exact Or.inl ⟨by rfl, by (intro W hSw; obtain ⟨s9, s0, s1, s2, s3, s4, s5⟩ := hSw; go_simp)⟩
                  simp only [Act.put, List.setIfInBounds_toArray, List.set_cons_zero, List.set_cons_succ]
                  refine wpAnyH_take (i := 13) (oi := ?op40q13) (v := .int .i64 0) ?hp40q13 (by kernel_rfl) (by kernel_rfl) (by kernel_rfl) (fun _ _ _ h => h) ?yp40q13 hHeld5 ?rp40q13
                  case hp40q13 => (simp only [List.getElem?_toArray, List.getElem?_cons_zero, List.getElem?_cons_succ]; rfl)
                  case yp40q13 => exact Or.inl ⟨by rfl, by (intro W hSw; obtain ⟨s9, s0, s1, s2, s3, s4, s5⟩ := hSw; go_simp)⟩
                  simp only [Act.put, List.setIfInBounds_toArray, List.set_cons_zero, List.set_cons_succ]
                  refine wpAnyH_done (by kernel_rfl) ?_ _
                  refine NoPanic.normal ?_
                  rw [List.nil_append, ← HLP.out] at nq5
                  obtain ⟨g9, c9, rfl⟩ := own_some nq5 (by rw [HLP.out]; simp)
                  have hw := HW1.out.tr oq5
                  go_wp2
                  go_ret2
                  rw [HE.out, HPL.out]
                  exact ⟨g9, c9, rfl, nq5.from_ (Nat.le_trans HBA.out HW1.out.size), hw⟩
                exact AllReadyH.nil
              exact AllReadyH.nil
            exact AllReadyH.nil
          refine AllReadyH.cons (o := ?ob41q) ?hb41q (fun K hK => ?rb41q) ?mb41q
          case hb41q => (simp only [List.getElem?_toArray, List.getElem?_cons_zero, List.getElem?_cons_succ]; rfl)
          case rb41q =>
            go_simp
            refine hK _ _ (HSX.out _ (hHeld1.1.al _)) (fun hHeld2 => ?_)
            clear hK K
            try simp only [Act.put, List.setIfInBounds_toArray, List.set_cons_zero, List.set_cons_succ]
            refine wpAnyH_ready (rs := [4]) (by kernel_rfl) (by simp) ?_
            refine AllReadyH.cons (o := ?ob43q) ?hb43q (fun K hK => ?rb43q) ?mb43q
            case hb43q => (simp only [List.getElem?_toArray, List.getElem?_cons_zero, List.getElem?_cons_succ]; rfl)
            case rb43q =>
              refine step_cels rfl _ rfl (.tmp 40) (.tmp 43) rfl (W0 := W0) (hHeld2.1) (.slice (some ⟨W8.heap.size, 0, none⟩) 0 0) ([]) (L.take L.length) rfl ((OwnC.empty (new_bk W8 _ _) ow8.size).old (Old.dr (old_alloc _ _))) _ rfl (own_take (HO.out.old (HW1.out.tr hHeld2.1)) L.length hk) (by rw [List.length_nil]; omega) ?_
              intro vq3 wq3 nq3 oq3 fq3 rq3
              refine hK _ _ (HSX.out _ oq3) (fun hHeld3 => ?_)
              clear hK K rq3
              try simp only [Act.put, List.setIfInBounds_toArray, List.set_cons_zero, List.set_cons_succ]
              refine wpAnyH_ready (rs := [7]) (by kernel_rfl) (by simp) ?_
              refine AllReadyH.cons (o := ?ob45q) ?hb45q (fun K hK => ?rb45q) ?mb45q
              case hb45q => (simp only [List.getElem?_toArray, List.getElem?_cons_zero, List.getElem?_cons_succ]; rfl)
              case rb45q =>
                refine step_cels rfl _ rfl (.tmp 44) (.tmp 46) rfl (W0 := W0) (oq3) (vq3) ([] ++ L.take L.length) ([c]) rfl (nq3) _ rfl (one_cel (Bk.grown (Bk.drew (new_bk' (W8.alloc (.cells #[] 31)) 31 (cells c) (W8.heap.size + 1) (by simp))) fq3 (by simp [Value.ownBlock]))) (by rw [List.length_append, List.length_nil, List.length_singleton]; omega) ?_
                intro vq4 wq4 nq4 oq4 fq4 rq4
                refine hK _ _ (HSX.out _ oq4) (fun hHeld4 => ?_)
                clear hK K rq4
                try simp only [Act.put, List.setIfInBounds_toArray, List.set_cons_zero, List.set_cons_succ]
                refine wpAnyH_ready (rs := [11]) (by kernel_rfl) (by simp) ?_
                refine AllReadyH.cons (o := ?ob47q) ?hb47q (fun K hK => ?rb47q) ?mb47q
                case hb47q => (simp only [List.getElem?_toArray, List.getElem?_cons_zero, List.getElem?_cons_succ]; rfl)
                case rb47q =>
                  refine step_cels rfl _ rfl (.tmp 47) (.tmp 50) rfl (W0 := W0) (oq4) (vq4) ([] ++ L.take L.length ++ [c]) (L.drop L.length) rfl (nq4) _ rfl (own_end (HO.out.old (HW1.out.tr oq4))) (by rw [List.length_append, List.length_append, List.length_nil, List.length_singleton]; omega) ?_
                  intro vq5 wq5 nq5 oq5 fq5 rq5
                  refine hK _ _ (HSX.out _ oq5) (fun hHeld5 => ?_)
                  clear hK K rq5
                  try simp only [Act.put, List.setIfInBounds_toArray, List.set_cons_zero, List.set_cons_succ]
                  refine wpAnyH_take (i := 12) (oi := ?op47q12) (v := vq5) ?hp47q12 (by kernel_rfl) (by kernel_rfl) (by kernel_rfl) (fun _ _ _ h => h) ?yp47q12 hHeld5 ?rp47q12
                  case hp47q12 => (simp only [List.getElem?_toArray, List.getElem?_cons_zero, List.getElem?_cons_succ]; rfl)
                  case yp47q12 => exact Or.inl ⟨by rfl, by (intro W hSw; obtain ⟨s9, s0, s1, s2, s3, s4, s5⟩ := hSw; go_simp)⟩
                  simp only [Act.put, List.setIfInBounds_toArray, List.set_cons_zero, List.set_cons_succ]
                  refine wpAnyH_take (i := 13) (oi := ?op47q13) (v := .int .i64 0) ?hp47q13 (by kernel_rfl) (by kernel_rfl) (by kernel_rfl) (fun _ _ _ h => h) ?yp47q13 hHeld5 ?rp47q13
                  case hp47q13 => (simp only [List.getElem?_toArray, List.getElem?_cons_zero, List.getElem?_cons_succ]; rfl)
                  case yp47q13 => exact Or.inl ⟨by rfl, by (intro W hSw; obtain ⟨s9, s0, s1, s2, s3, s4, s5⟩ := hSw; go_simp)⟩
                  simp only [Act.put, List.setIfInBounds_toArray, List.set_cons_zero, List.set_cons_succ]
                  refine wpAnyH_done (by kernel_rfl) ?_ _
                  refine NoPanic.normal ?_
                  rw [List.nil_append, ← HLP.out] at nq5
                  obtain ⟨g9, c9, rfl⟩ := own_some nq5 (by rw [HLP.out]; simp)
                  have hw := HW1.out.tr oq5
                  go_wp2
                  go_ret2
                  rw [HE.out, HPL.out]
                  exact ⟨g9, c9, rfl, nq5.from_ (Nat.le_trans HBA.out HW1.out.size), hw⟩
                exact AllReadyH.nil
              exact AllReadyH.nil
            exact AllReadyH.nil
          exact AllReadyH.nil
        refine AllReadyH.cons (o := ?ob48q) ?hb48q (fun K hK => ?rb48q) ?mb48q
        case hb48q => (simp only [List.getElem?_toArray, List.getElem?_cons_zero, List.getElem?_cons_succ]; rfl)
        case rb48q =>
          go_simp
          refine hK _ _ (HSX.out _ (hHeld0.1.al _)) (fun hHeld1 => ?_)
          clear hK K
          try simp only [Act.put, List.setIfInBounds_toArray, List.set_cons_zero, List.set_cons_succ]
          refine wpAnyH_ready (rs := [0]) (by kernel_rfl) (by simp) ?_
          refine AllReadyH.cons (o := ?ob50q) ?hb50q (fun K hK => ?rb50q) ?mb50q
          case hb50q => (simp only [List.getElem?_toArray, List.getElem?_cons_zero]; rfl)
          case rb50q =>
            go_simp
            refine hK _ _ (HSX.out _ (hHeld1.1.al _)) (fun hHeld2 => ?_)
            clear hK K
            try simp only [Act.put, List.setIfInBounds_toArray, List.set_cons_zero, List.set_cons_succ]
            refine wpAnyH_ready (rs := [4]) (by kernel_rfl) (by simp) ?_
            refine AllReadyH.cons (o := ?ob52q) ?hb52q (fun K hK => ?rb52q) ?mb52q
            case hb52q => (simp only [List.getElem?_toArray, List.getElem?_cons_zero, List.getElem?_cons_succ]; rfl)
            case rb52q =>
              refine step_cels rfl _ rfl (.tmp 40) (.tmp 43) rfl (W0 := W0) (hHeld2.1) (.slice (some ⟨W8.heap.size + 1, 0, none⟩) 0 0) ([]) (L.take L.length) rfl (OwnC.empty (new_bk' (W8.alloc (.cells (cells c) 31)) 31 #[] (W8.heap.size + 1) (by simp)) (Nat.le_trans ow8.size (by simp))) _ rfl (own_take (HO.out.old (HW1.out.tr hHeld2.1)) L.length hk) (by rw [List.length_nil]; omega) ?_
              intro vq3 wq3 nq3 oq3 fq3 rq3
              refine hK _ _ (HSX.out _ oq3) (fun hHeld3 => ?_)
              clear hK K rq3
              try simp only [Act.put, List.setIfInBounds_toArray, List.set_cons_zero, List.set_cons_succ]
              refine wpAnyH_ready (rs := [7]) (by kernel_rfl) (by simp) ?_
              refine AllReadyH.cons (o := ?ob54q) ?hb54q (fun K hK => ?rb54q) ?mb54q
              case hb54q => (simp only [List.getElem?_toArray, List.getElem?_cons_zero, List.getElem?_cons_succ]; rfl)
              case rb54q =>
                refine step_cels rfl _ rfl (.tmp 44) (.tmp 46) rfl (W0 := W0) (oq3) (vq3) ([] ++ L.take L.length) ([c]) rfl (nq3) _ rfl (one_cel (Bk.grown (Bk.drew ((new_bk W8 31 (cells c)).alloc _)) fq3 (by simp [Value.ownBlock]))) (by rw [List.length_append, List.length_nil, List.length_singleton]; omega) ?_
                intro vq4 wq4 nq4 oq4 fq4 rq4
                refine hK _ _ (HSX.out _ oq4) (fun hHeld4 => ?_)
                clear hK K rq4
                try simp only [Act.put, List.setIfInBounds_toArray, List.set_cons_zero, List.set_cons_succ]
                refine wpAnyH_ready (rs := [11]) (by kernel_rfl) (by simp) ?_
                refine AllReadyH.cons (o := ?ob56q) ?hb56q (fun K hK => ?rb56q) ?mb56q
                case hb56q => (simp only [List.getElem?_toArray, List.getElem?_cons_zero, List.getElem?_cons_succ]; rfl)
                case rb56q =>
                  refine step_cels rfl _ rfl (.tmp 47) (.tmp 50) rfl (W0 := W0) (oq4) (vq4) ([] ++ L.take L.length ++ [c]) (L.drop L.length) rfl (nq4) _ rfl (own_end (HO.out.old (HW1.out.tr oq4))) (by rw [List.length_append, List.length_append, List.length_nil, List.length_singleton]; omega) ?_
                  intro vq5 wq5 nq5 oq5 fq5 rq5
                  refine hK _ _ (HSX.out _ oq5) (fun hHeld5 => ?_)
                  clear hK K rq5
                  try simp only [Act.put, List.setIfInBounds_toArray, List.set_cons_zero, List.set_cons_succ]
                  refine wpAnyH_take (i := 12) (oi := ?op56q12) (v := vq5) ?hp56q12 (by kernel_rfl) (by kernel_rfl) (by kernel_rfl) (fun _ _ _ h => h) ?yp56q12 hHeld5 ?rp56q12
                  case hp56q12 => (simp only [List.getElem?_toArray, List.getElem?_cons_zero, List.getElem?_cons_succ]; rfl)
                  case yp56q12 => exact Or.inl ⟨by rfl, by (intro W hSw; obtain ⟨s9, s0, s1, s2, s3, s4, s5⟩ := hSw; go_simp)⟩
                  simp only [Act.put, List.setIfInBounds_toArray, List.set_cons_zero, List.set_cons_succ]
                  refine wpAnyH_take (i := 13) (oi := ?op56q13) (v := .int .i64 0) ?hp56q13 (by kernel_rfl) (by kernel_rfl) (by kernel_rfl) (fun _ _ _ h => h) ?yp56q13 hHeld5 ?rp56q13
                  case hp56q13 => (simp only [List.getElem?_toArray, List.getElem?_cons_zero, List.getElem?_cons_succ]; rfl)
                  case yp56q13 => exact Or.inl ⟨by rfl, by (intro W hSw; obtain ⟨s9, s0, s1, s2, s3, s4, s5⟩ := hSw; go_simp)⟩
                  simp only [Act.put, List.setIfInBounds_toArray, List.set_cons_zero, List.set_cons_succ]
                  refine wpAnyH_done (by kernel_rfl) ?_ _
                  refine NoPanic.normal ?_
                  rw [List.nil_append, ← HLP.out] at nq5
                  obtain ⟨g9, c9, rfl⟩ := own_some nq5 (by rw [HLP.out]; simp)
                  have hw := HW1.out.tr oq5
                  go_wp2
                  go_ret2
                  rw [HE.out, HPL.out]
                  exact ⟨g9, c9, rfl, nq5.from_ (Nat.le_trans HBA.out HW1.out.size), hw⟩
                exact AllReadyH.nil
              exact AllReadyH.nil
            exact AllReadyH.nil
          exact AllReadyH.nil
        exact AllReadyH.nil
end Go.Proofs.Ythanenblcplbhaa
