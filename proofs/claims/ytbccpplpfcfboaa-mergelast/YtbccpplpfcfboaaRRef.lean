/-
  Resolve of the reference: one by one, each to its place. Conditions: lengths as written.
-/
import Derived.Test.YtbccpplpfcfboaaROn2
namespace Go.Proofs.Ytbccpplpfcfboaa
open Go.RowKit

theorem OwnN.low {e : TypeId} {w : World} {base base' : Nat} {v : Value} {l : List Itm} (h : OwnN e w base v l) (hb : base' ≤ base) : OwnN e w base' v l := by
  refine ⟨⟨h.1.1, ?_⟩, h.2⟩
  rcases h.1.2 with h1 | ⟨gg, cap, cur, hv, hbb, rest⟩
  · exact .inl h1
  · exact .inr ⟨gg, cap, cur, hv, Nat.le_trans hb hbb, rest⟩
theorem keep7 {W W' : World} {b o : Nat} {x : Itm} (hx : At7 W b o x) (k : Old W W') : Old W W' ∧ W'.cell? ⟨b, o, none⟩ = some (.string (B x.c.row)) ∧ W'.cell? ⟨b, o + 1, none⟩ = some (.string (B x.c.col)) ∧ W'.cell? ⟨b, o + 2, none⟩ = some (.int .u64 x.c.ts) ∧ W'.cell? ⟨b, o + 3, none⟩ = some (.int .u64 x.c.seq) ∧ W'.cell? ⟨b, o + 4, none⟩ = some (.bool x.c.del) ∧ W'.cell? ⟨b, o + 5, none⟩ = some (.string (B x.c.val)) ∧ W'.cell? ⟨b, o + 6, none⟩ = some (.int .i64 x.pos) := ⟨k, (hx.old k).held⟩
/-- Items that the reference's Resolve has made. -/
def RitR (w : World) (v : Value) (l : List Itm) : Prop := ∃ g cap r, v = .slice (some ⟨g, 0, none⟩) l.length cap ∧ l.length ≤ cap ∧ Bk w g 56 (flat l ++ r).toArray
theorem RitR.its {w : World} {v : Value} {l : List Itm} (h : RitR w v l) : Itms w v l := by
  obtain ⟨g, cap, r, h1, h2, h3⟩ := h
  exact .inr ⟨⟨g, 0, none⟩, cap, h1, h2, fun _ => ⟨g, 0, rfl, bk_its h3⟩⟩
theorem RitR.old {w w' : World} {v : Value} {l : List Itm} (h : RitR w v l) (o : Old w w') : RitR w' v l := by
  obtain ⟨g, cap, r, h1, h2, h3⟩ := h
  exact ⟨g, cap, r, h1, h2, h3.old o⟩
theorem best_snoc (l : List Itm) (x k : Itm) : best (l ++ [x]) k = comb (best l k) (one x k) := by
  rw [best_app, best, best, comb_none]
theorem res_same {l out : List Itm} {k j : Nat} {x y : Itm} (h : IsRes (l.take k) out) (hx : l[k]? = some x) (hy : out[j]? = some y) (hs : cmpK y x = 0) :
    Hid (y.pos < x.pos → IsRes (l.take (k + 1)) (out.set j x)) ∧ Hid (¬ y.pos < x.pos → IsRes (l.take (k + 1)) out) := by
  obtain ⟨hj, rfl⟩ := List.getElem?_eq_some_iff.1 hy
  have e1 : out = out.take j ++ out[j] :: out.drop (j + 1) := by
    rw [← List.drop_eq_getElem_cons hj, List.take_append_drop]
  have e2 : out.set j x = out.take j ++ x :: out.drop (j + 1) := List.set_eq_take_append_cons_drop.trans (if_pos hj)
  have h1 := h.1
  rw [e1] at h1
  obtain ⟨p1, p2⟩ := res_put h1 hs
  rw [← e1] at p2
  refine ⟨Lib.hid fun hp => ?_, Lib.hid fun hp => ?_⟩
  · rw [if_pos hp] at p1 p2
    rw [← take_at hx, e2]
    exact ⟨p1, fun q => by rw [p2, best_snoc, h.2]⟩
  · rw [if_neg hp, ← e1] at p2
    rw [← take_at hx]
    exact ⟨h.1, fun q => by rw [p2, best_snoc, h.2]⟩
theorem res_gt {y x : Itm} (h : ¬ cmpI y x < 0) (hs : sameI y x = false) : cmpK x y = -1 := by
  rw [sameI_no] at hs
  have := cmpK_neg y x
  rcases cmpI_cases y x with k | k | k | k | k <;> omega
theorem res_lt {y x : Itm} (h : cmpI y x < 0) (hs : sameI y x = false) : cmpK y x = -1 := by
  rw [sameI_no] at hs
  rcases cmpI_cases y x with k | k | k | k | k <;> omega
theorem res_none {l out : List Itm} {k j : Nat} {x : Itm} (h : IsRes (l.take k) out) (hx : l[k]? = some x) (hA : ∀ a ∈ out.take j, cmpK a x = -1) (hD : j < out.length → ∃ y, out[j]? = some y ∧ cmpK x y = -1) :
    IsRes (l.take (k + 1)) (out.take j ++ x :: out.drop j) := by
  have h1 := h.1
  rw [← List.take_append_drop j out] at h1
  have hD2 : ∀ d ∈ out.drop j, cmpK x d = -1 := by
    intro d hd
    have hj : j < out.length := by
      rcases Nat.lt_or_ge j out.length with q | q
      · exact q
      · rw [List.drop_of_length_le q] at hd; simp at hd
    obtain ⟨y, hy, hyk⟩ := hD hj
    obtain ⟨hj2, rfl⟩ := List.getElem?_eq_some_iff.1 hy
    have h2 := (List.pairwise_append.1 h1).2.1
    rw [List.drop_eq_getElem_cons hj] at hd h2
    rcases List.mem_cons.1 hd with rfl | hd
    · exact hyk
    · exact cmpK_trans hyk ((List.pairwise_cons.1 h2).1 d hd)
  obtain ⟨p1, p2⟩ := res_ins h1 hA hD2
  rw [List.take_append_drop] at p2
  rw [← take_at hx]
  exact ⟨p1, fun q => by rw [p2, best_snoc, h.2]⟩

set_option maxRecDepth 100000 in
set_option maxHeartbeats 16000000 in
theorem rresolve_any (w : World) (v : Value) (l : List Itm) (h : Itms w v l) (hl : l.length ≤ 40000) :
    Calls Try.prog 33 #[v] w fun e w' => ∃ u out, e = .returned u ∧ IsRes l out ∧ out.length ≤ l.length ∧ Old w w' ∧ RitR w' u out := by
  obtain ⟨A, cap, rfl, hc⟩ := h.form
  have HI := Lib.hid h
  clear h
  go_enter Try.func33, Try.ntmps33
  go_wp2_with fail
  go_loopw [3, 4] (fun ov iv wr => ∃ (k g cap2 : Nat) (out : List Itm) (rr : List Value), iv = .int .i64 k ∧ k ≤ l.length ∧ ov = .slice (some ⟨g, 0, none⟩) out.length cap2 ∧ out.length ≤ k ∧ Old w wr ∧ w.heap.size ≤ g ∧ out.length ≤ cap2 ∧ cap2 ≤ maxLen ∧ Hid (IsRes (l.take k) out) ∧ Hid (Bk wr g 56 (flat out ++ rr).toArray ∧ cap2 * 7 = out.length * 7 + rr.length)) (fun _ iv _ => l.length - (intOf iv).toNat)
  case atStart => exact ⟨0, w.heap.size, 0, [], [], rfl, Nat.zero_le _, rfl, Nat.le_refl _, old_alloc _ _, Nat.le_refl _, Nat.le_refl _, by simp, Lib.hid (by rw [List.take_zero]; exact IsRes.nil), Lib.hid ⟨new_bk _ _ _, rfl⟩⟩
  case round =>
    obtain ⟨k, g, cap2, out, rr, rfl, hk, rfl, hok, o1, hg, hcap, hmx, HR, HO⟩ := hrel
    by_cases hlt : k < l.length
    · obtain ⟨x, HX⟩ : ∃ x, Hid (l[k]? = some x) := ⟨l[k], Lib.hid (List.getElem?_eq_getElem hlt)⟩
      obtain ⟨b, off, rfl, hx⟩ := (HI.out.old o1).at_ HX.out
      have HXb := Lib.hid hx
      clear hx
      have HCR := Lib.hid HO.out.2
      have HO := Lib.hid HO.out.1
      go_wp2_with fail
      go_loopw [5] (fun av wr => ∃ j : Nat, av = .int .i64 j ∧ j ≤ out.length ∧ Old w wr ∧ Hid (∀ a ∈ out.take j, cmpK a x = -1) ∧ Hid (Bk wr g 56 (flat out ++ rr).toArray) ∧ Hid (At7 wr b (off + k * 7) x)) (fun av _ => out.length - (intOf av).toNat)
      case atStart => exact ⟨0, rfl, Nat.zero_le _, o1, Lib.hid (by simp), HO, HXb⟩
      case round =>
        clear HO HXb o1
        obtain ⟨j, rfl, hj, o1, HA, HO, HXb⟩ := hrel
        have hb1 : (0 : Int) ≤ (k : Int) := by omega
        have hb2 : (k : Int) < (l.length : Int) := by omega
        by_cases hjl : j < out.length
        · obtain ⟨y, HY⟩ : ∃ y, Hid (out[j]? = some y) := ⟨out[j], Lib.hid (List.getElem?_eq_getElem hjl)⟩
          have HXY := Lib.hid (And.intro (bk_at HO.out HY.out) HXb.out)
          clear HXb
          have hb3 : (0 : Int) ≤ (j : Int) := by omega
          have hb4 : (j : Int) < (out.length : Int) := by omega
          have hb5 : decide ((j : Int) < (out.length : Int)) = true := by simpa using hjl
          have hS := p2_of HXY.out.1 HXY.out.2
          by_cases hxy : cmpI y x < 0
          · have hC := cmpI_vals y x
            have HC := Lib.hid fun W => ricmp_at y x (-1) (by omega) W
            clear hC
            cases hsm : sameI y x with
            | true =>
              have HM := Lib.hid fun W => rsame_at y x true hsm W
              have hj := hjl
              go_upto_region 6 with (fail)
              go_region_held3 (fun W => Old wr W ∧ W.cell? ⟨g, j * 7, none⟩ = some (.string (B y.c.row)) ∧ W.cell? ⟨g, j * 7 + 1, none⟩ = some (.string (B y.c.col)) ∧ W.cell? ⟨g, j * 7 + 2, none⟩ = some (.int .u64 y.c.ts) ∧ W.cell? ⟨g, j * 7 + 3, none⟩ = some (.int .u64 y.c.seq) ∧ W.cell? ⟨g, j * 7 + 4, none⟩ = some (.bool y.c.del) ∧ W.cell? ⟨g, j * 7 + 5, none⟩ = some (.string (B y.c.val)) ∧ W.cell? ⟨g, j * 7 + 6, none⟩ = some (.int .i64 y.pos) ∧ W.cell? ⟨b, off + k * 7, none⟩ = some (.string (B x.c.row)) ∧ W.cell? ⟨b, off + k * 7 + 1, none⟩ = some (.string (B x.c.col)) ∧ W.cell? ⟨b, off + k * 7 + 2, none⟩ = some (.int .u64 x.c.ts) ∧ W.cell? ⟨b, off + k * 7 + 3, none⟩ = some (.int .u64 x.c.seq) ∧ W.cell? ⟨b, off + k * 7 + 4, none⟩ = some (.bool x.c.del) ∧ W.cell? ⟨b, off + k * 7 + 5, none⟩ = some (.string (B x.c.val)) ∧ W.cell? ⟨b, off + k * 7 + 6, none⟩ = some (.int .i64 x.pos)) (first | exact ⟨hS.1.dr, hS.2⟩ | exact p2_old (by assumption) (by assumption))
                (first
                  | (go_at_call 24; with_reducible refine (HC.out _).mono ?_; rintro r w1 ⟨rfl, h1b⟩)
                  | (go_at_call 23; with_reducible refine (HM.out _).mono ?_; rintro r w1 ⟨rfl, h1b⟩))
              rename_i hHeldA
              have f9 : Old wr w1 := hHeldA.1
              clear hHeldA hS
              have HO1 := Lib.hid (HO.out.old f9)
              have HXY1 := Lib.hid (And.intro (HXY.out.1.old f9) (HXY.out.2.old f9))
              have o2 := o1.tr f9
              clear HO HXY f9 o1
              clear HM
              have hS := p2_of HXY1.out.1 HXY1.out.2
              have HM := Lib.hid fun W => rsame_at y x true hsm W
              go_upto_region 9 with (fail)
              go_region_held3 (fun W => Old w1 W ∧ W.cell? ⟨g, j * 7, none⟩ = some (.string (B y.c.row)) ∧ W.cell? ⟨g, j * 7 + 1, none⟩ = some (.string (B y.c.col)) ∧ W.cell? ⟨g, j * 7 + 2, none⟩ = some (.int .u64 y.c.ts) ∧ W.cell? ⟨g, j * 7 + 3, none⟩ = some (.int .u64 y.c.seq) ∧ W.cell? ⟨g, j * 7 + 4, none⟩ = some (.bool y.c.del) ∧ W.cell? ⟨g, j * 7 + 5, none⟩ = some (.string (B y.c.val)) ∧ W.cell? ⟨g, j * 7 + 6, none⟩ = some (.int .i64 y.pos) ∧ W.cell? ⟨b, off + k * 7, none⟩ = some (.string (B x.c.row)) ∧ W.cell? ⟨b, off + k * 7 + 1, none⟩ = some (.string (B x.c.col)) ∧ W.cell? ⟨b, off + k * 7 + 2, none⟩ = some (.int .u64 x.c.ts) ∧ W.cell? ⟨b, off + k * 7 + 3, none⟩ = some (.int .u64 x.c.seq) ∧ W.cell? ⟨b, off + k * 7 + 4, none⟩ = some (.bool x.c.del) ∧ W.cell? ⟨b, off + k * 7 + 5, none⟩ = some (.string (B x.c.val)) ∧ W.cell? ⟨b, off + k * 7 + 6, none⟩ = some (.int .i64 x.pos)) (first | exact ⟨hS.1.dr, hS.2⟩ | exact p2_old (by assumption) (by assumption))
                (first
                  | (go_at_call 23; with_reducible refine (HM.out _).mono ?_; rintro r w7 ⟨rfl, h1b⟩))
              rename_i hHeldB
              have f7 : Old w1 w7 := hHeldB.1
              clear hHeldB hS
              have HO2 := Lib.hid (HO1.out.old f7)
              have HXY2 := Lib.hid (And.intro (HXY1.out.1.old f7) (HXY1.out.2.old f7))
              have o3 := o2.tr f7
              clear HO1 HXY1 f7 o2 h1b HM
              obtain ⟨HR1, HR2⟩ : Hid (y.pos < x.pos → IsRes (l.take (k + 1)) (out.set j x)) ∧ Hid (¬ y.pos < x.pos → IsRes (l.take (k + 1)) out) := res_same HR.out HX.out HY.out ((sameI_iff _ _).1 hsm)
              have HFR := Lib.hid (show ∀ z, w7.frozen? ⟨g, z, none⟩ = false from fun z => Bk.fr HO2.out z)
              by_cases hpos : y.pos < x.pos
              · have hdp : decide (y.pos < x.pos) = true := by simpa using hpos
                go_upto_region 10 with (fail)
                obtain ⟨y0, y1, y2, y3, y4, y5, y6⟩ := HXY2.out.1.held
                obtain ⟨x0, x1, x2, x3, x4, x5, x6⟩ := HXY2.out.2.held
                go_quiet (fail)
                clear x0 x1 x2 x3 x4 x5 x6 y0 y1 y2 y3 y4 y5 y6 hdp HFR
                have f8 : Old w7 (w7.drewN nq) := (Old.re _).dn nq
                have o5 := o3.tr f8
                have HO3 := Lib.hid (HO2.out.old f8)
                have HXY3 := Lib.hid (And.intro (HXY2.out.1.old f8) (HXY2.out.2.old f8))
                clear HO2 HXY2 o3 f8
                generalize w7.drewN nq = w8 at *
                have fr := fun z => Bk.fr HO3.out z
                obtain ⟨y0, y1, y2, y3, y4, y5, y6⟩ := HXY3.out.1.held
                obtain ⟨x0, x1, x2, x3, x4, x5, x6⟩ := HXY3.out.2.held
                go_wp2
                have o4 := o5.putI hg (j * 7) x
                have hf := bk_put HO3.out (i := j) hj x
                unfold putI at o4 hf
                have HG := Lib.hid hf
                clear hf x0 x1 x2 x3 x4 x5 x6 y0 y1 y2 y3 y4 y5 y6 fr HO3 HXY3
                go_roundw
                case rel => exact ⟨k + 1, g, cap2, out.set j x, rr, by go_num, by omega, by rw [List.length_set], by rw [List.length_set]; omega, o4, hg, by rw [List.length_set]; omega, hmx, Lib.hid (HR1.out hpos), Lib.hid (by rw [List.length_set]; exact ⟨HG.out, HCR.out⟩)⟩
                case measure => simp [intOf]; omega
              · have hdp : decide (y.pos < x.pos) = false := by simpa using hpos
                go_upto_region 10 with (fail)
                obtain ⟨y0, y1, y2, y3, y4, y5, y6⟩ := HXY2.out.1.held
                obtain ⟨x0, x1, x2, x3, x4, x5, x6⟩ := HXY2.out.2.held
                go_quiet (fail)
                clear x0 x1 x2 x3 x4 x5 x6 y0 y1 y2 y3 y4 y5 y6
                go_wp2
                go_roundw
                case rel => exact ⟨k + 1, g, cap2, out, rr, by go_num, by omega, rfl, by omega, o3.dn _, hg, hcap, hmx, Lib.hid (HR2.out hpos), Lib.hid ⟨HO2.out, HCR.out⟩⟩
                case measure => simp [intOf]; omega
            | false =>
              have HM := Lib.hid fun W => rsame_at y x false hsm W
              have HA2 := Lib.hid (show ∀ a ∈ out.take (j + 1), cmpK a x = -1 from fun a ha => by
                rw [← take_at HY.out] at ha
                rcases List.mem_append.1 ha with ha | ha
                · exact HA.out a ha
                · rw [List.mem_singleton.1 ha]; exact res_lt hxy hsm)
              clear hsm hxy
              go_upto_region 6 with (fail)
              go_region_held3 (fun W => Old wr W ∧ W.cell? ⟨g, j * 7, none⟩ = some (.string (B y.c.row)) ∧ W.cell? ⟨g, j * 7 + 1, none⟩ = some (.string (B y.c.col)) ∧ W.cell? ⟨g, j * 7 + 2, none⟩ = some (.int .u64 y.c.ts) ∧ W.cell? ⟨g, j * 7 + 3, none⟩ = some (.int .u64 y.c.seq) ∧ W.cell? ⟨g, j * 7 + 4, none⟩ = some (.bool y.c.del) ∧ W.cell? ⟨g, j * 7 + 5, none⟩ = some (.string (B y.c.val)) ∧ W.cell? ⟨g, j * 7 + 6, none⟩ = some (.int .i64 y.pos) ∧ W.cell? ⟨b, off + k * 7, none⟩ = some (.string (B x.c.row)) ∧ W.cell? ⟨b, off + k * 7 + 1, none⟩ = some (.string (B x.c.col)) ∧ W.cell? ⟨b, off + k * 7 + 2, none⟩ = some (.int .u64 x.c.ts) ∧ W.cell? ⟨b, off + k * 7 + 3, none⟩ = some (.int .u64 x.c.seq) ∧ W.cell? ⟨b, off + k * 7 + 4, none⟩ = some (.bool x.c.del) ∧ W.cell? ⟨b, off + k * 7 + 5, none⟩ = some (.string (B x.c.val)) ∧ W.cell? ⟨b, off + k * 7 + 6, none⟩ = some (.int .i64 x.pos)) (first | exact ⟨hS.1.dr, hS.2⟩ | exact p2_old (by assumption) (by assumption))
                (first
                  | (go_at_call 24; with_reducible refine (HC.out _).mono ?_; rintro r w1 ⟨rfl, h1b⟩)
                  | (go_at_call 23; with_reducible refine (HM.out _).mono ?_; rintro r w1 ⟨rfl, h1b⟩))
              rename_i hHeldA
              have f9 : Old wr w1 := hHeldA.1
              clear hHeldA hS
              have HO1 := Lib.hid (HO.out.old f9)
              have HXY1 := Lib.hid (And.intro (HXY.out.1.old f9) (HXY.out.2.old f9))
              have o2 := o1.tr f9
              clear HO HXY f9 o1
              go_wp2
              go_round
              case rel => exact ⟨j + 1, by go_num, by omega, o2, HA2, HO1, Lib.hid HXY1.out.2⟩
              case measure => simp [intOf]; omega
          · obtain ⟨c, hc0, hcc⟩ : ∃ c, cmpI y x = c ∧ decide (c < (0 : Int)) = false := ⟨_, rfl, by simp; omega⟩
            have HC := Lib.hid fun W => ricmp_at y x c hc0 W
            clear hc0
            have hj := hjl
            go_upto_region 6 with (fail)
            refine wp_region_noPanic ?_
            refine wp_region_held_drew (S := fun W => Old wr W ∧ W.cell? ⟨g, j * 7, none⟩ = some (.string (B y.c.row)) ∧ W.cell? ⟨g, j * 7 + 1, none⟩ = some (.string (B y.c.col)) ∧ W.cell? ⟨g, j * 7 + 2, none⟩ = some (.int .u64 y.c.ts) ∧ W.cell? ⟨g, j * 7 + 3, none⟩ = some (.int .u64 y.c.seq) ∧ W.cell? ⟨g, j * 7 + 4, none⟩ = some (.bool y.c.del) ∧ W.cell? ⟨g, j * 7 + 5, none⟩ = some (.string (B y.c.val)) ∧ W.cell? ⟨g, j * 7 + 6, none⟩ = some (.int .i64 y.pos) ∧ W.cell? ⟨b, off + k * 7, none⟩ = some (.string (B x.c.row)) ∧ W.cell? ⟨b, off + k * 7 + 1, none⟩ = some (.string (B x.c.col)) ∧ W.cell? ⟨b, off + k * 7 + 2, none⟩ = some (.int .u64 x.c.ts) ∧ W.cell? ⟨b, off + k * 7 + 3, none⟩ = some (.int .u64 x.c.seq) ∧ W.cell? ⟨b, off + k * 7 + 4, none⟩ = some (.bool x.c.del) ∧ W.cell? ⟨b, off + k * 7 + 5, none⟩ = some (.string (B x.c.val)) ∧ W.cell? ⟨b, off + k * 7 + 6, none⟩ = some (.int .i64 x.pos)) (by kernel_rfl) ⟨hS.1.dr, hS.2⟩ (fun hHeld => ?_)
            refine wpAnyH_take (i := 0) (oi := ?o0) (v := .int .i64 (j : Int)) ?h0 (by kernel_rfl) (by kernel_rfl) (by kernel_rfl) (fun _ _ _ h => h) ?y0 (by assumption) ?r0
            case h0 => (simp only [List.getElem?_toArray, List.getElem?_cons_zero]; rfl)
            case y0 => exact Or.inl ⟨by rfl, by (intro W hSw; (try dsimp only at hSw); obtain ⟨s0, a0, a1, a2, a3, a4, a5, a6, b0, b1, b2, b3, b4, b5, b6⟩ := hSw; go_simp)⟩
            simp only [Act.put, List.setIfInBounds_toArray, List.set_cons_zero, List.set_cons_succ]
            refine wpAnyH_take (i := 1) (oi := ?o1) (v := .slice (some ⟨g, 0, none⟩) out.length cap2) ?h1 (by kernel_rfl) (by kernel_rfl) (by kernel_rfl) (fun _ _ _ h => h) ?y1 (by assumption) ?r1
            case h1 => (simp only [List.getElem?_toArray, List.getElem?_cons_zero, List.getElem?_cons_succ]; rfl)
            case y1 => exact Or.inl ⟨by rfl, by (intro W hSw; (try dsimp only at hSw); obtain ⟨s0, a0, a1, a2, a3, a4, a5, a6, b0, b1, b2, b3, b4, b5, b6⟩ := hSw; go_simp)⟩
            simp only [Act.put, List.setIfInBounds_toArray, List.set_cons_zero, List.set_cons_succ]
            refine wpAnyH_take (i := 2) (oi := ?o2) (v := .int .i64 (out.length : Int)) ?h2 (by kernel_rfl) (by kernel_rfl) (by kernel_rfl) (fun _ _ _ h => h) ?y2 (by assumption) ?r2
            case h2 => (simp only [List.getElem?_toArray, List.getElem?_cons_zero, List.getElem?_cons_succ]; rfl)
            case y2 => exact Or.inl ⟨by rfl, by (intro W hSw; (try dsimp only at hSw); obtain ⟨s0, a0, a1, a2, a3, a4, a5, a6, b0, b1, b2, b3, b4, b5, b6⟩ := hSw; go_simp)⟩
            simp only [Act.put, List.setIfInBounds_toArray, List.set_cons_zero, List.set_cons_succ]
            refine wpAnyH_take (i := 3) (oi := ?o3) (v := .bool true) ?h3 (by kernel_rfl) (by kernel_rfl) (by kernel_rfl) (fun _ _ _ h => h) ?y3 (by assumption) ?r3
            case h3 => (simp only [List.getElem?_toArray, List.getElem?_cons_zero, List.getElem?_cons_succ]; rfl)
            case y3 => exact Or.inl ⟨by rfl, by (intro W hSw; (try dsimp only at hSw); obtain ⟨s0, a0, a1, a2, a3, a4, a5, a6, b0, b1, b2, b3, b4, b5, b6⟩ := hSw; go_simp)⟩
            simp only [Act.put, List.setIfInBounds_toArray, List.set_cons_zero, List.set_cons_succ]
            refine wpAnyH_take (i := 4) (oi := ?o4) (v := .bool true) ?h4 (by kernel_rfl) (by kernel_rfl) (by kernel_rfl) (fun _ _ _ h => h) ?y4 (by assumption) ?r4
            case h4 => (simp only [List.getElem?_toArray, List.getElem?_cons_zero, List.getElem?_cons_succ]; rfl)
            case y4 => exact Or.inl ⟨by rfl, by (intro W hSw; (try dsimp only at hSw); obtain ⟨s0, a0, a1, a2, a3, a4, a5, a6, b0, b1, b2, b3, b4, b5, b6⟩ := hSw; go_simp)⟩
            simp only [Act.put, List.setIfInBounds_toArray, List.set_cons_zero, List.set_cons_succ]
            refine wpAnyH_take (i := 5) (oi := ?o5) (v := .slice (some ⟨g, 0, none⟩) out.length cap2) ?h5 (by kernel_rfl) (by kernel_rfl) (by kernel_rfl) (fun _ _ _ h => h) ?y5 (by assumption) ?r5
            case h5 => (simp only [List.getElem?_toArray, List.getElem?_cons_zero, List.getElem?_cons_succ]; rfl)
            case y5 => exact Or.inl ⟨by rfl, by (intro W hSw; (try dsimp only at hSw); obtain ⟨s0, a0, a1, a2, a3, a4, a5, a6, b0, b1, b2, b3, b4, b5, b6⟩ := hSw; go_simp)⟩
            simp only [Act.put, List.setIfInBounds_toArray, List.set_cons_zero, List.set_cons_succ]
            refine wpAnyH_take (i := 6) (oi := ?o6) (v := .int .i64 (j : Int)) ?h6 (by kernel_rfl) (by kernel_rfl) (by kernel_rfl) (fun _ _ _ h => h) ?y6 (by assumption) ?r6
            case h6 => (simp only [List.getElem?_toArray, List.getElem?_cons_zero, List.getElem?_cons_succ]; rfl)
            case y6 => exact Or.inl ⟨by rfl, by (intro W hSw; (try dsimp only at hSw); obtain ⟨s0, a0, a1, a2, a3, a4, a5, a6, b0, b1, b2, b3, b4, b5, b6⟩ := hSw; go_simp)⟩
            simp only [Act.put, List.setIfInBounds_toArray, List.set_cons_zero, List.set_cons_succ]
            refine wpAnyH_take (i := 7) (oi := ?o7) (v := .pointer (some ⟨g, j * 7, none⟩)) ?h7 (by kernel_rfl) (by kernel_rfl) (by kernel_rfl) (fun _ _ _ h => h) ?y7 (by assumption) ?r7
            case h7 => (simp only [List.getElem?_toArray, List.getElem?_cons_zero, List.getElem?_cons_succ]; rfl)
            case y7 => exact Or.inl ⟨by rfl, by (intro W hSw; (try dsimp only at hSw); obtain ⟨s0, a0, a1, a2, a3, a4, a5, a6, b0, b1, b2, b3, b4, b5, b6⟩ := hSw; go_simp)⟩
            simp only [Act.put, List.setIfInBounds_toArray, List.set_cons_zero, List.set_cons_succ]
            refine wpAnyH_take (i := 8) (oi := ?o8) (v := iv y) ?h8 (by kernel_rfl) (by kernel_rfl) (by kernel_rfl) (fun _ _ _ h => h) ?y8 (by assumption) ?r8
            case h8 => (simp only [List.getElem?_toArray, List.getElem?_cons_zero, List.getElem?_cons_succ]; rfl)
            case y8 => exact Or.inl ⟨by rfl, by (intro W hSw; (try dsimp only at hSw); obtain ⟨s0, a0, a1, a2, a3, a4, a5, a6, b0, b1, b2, b3, b4, b5, b6⟩ := hSw; go_simp)⟩
            simp only [Act.put, List.setIfInBounds_toArray, List.set_cons_zero, List.set_cons_succ]
            refine wpAnyH_take (i := 9) (oi := ?o9) (v := .slice (some ⟨b, off, none⟩) l.length cap) ?h9 (by kernel_rfl) (by kernel_rfl) (by kernel_rfl) (fun _ _ _ h => h) ?y9 (by assumption) ?r9
            case h9 => (simp only [List.getElem?_toArray, List.getElem?_cons_zero, List.getElem?_cons_succ]; rfl)
            case y9 => exact Or.inl ⟨by rfl, by (intro W hSw; (try dsimp only at hSw); obtain ⟨s0, a0, a1, a2, a3, a4, a5, a6, b0, b1, b2, b3, b4, b5, b6⟩ := hSw; go_simp)⟩
            simp only [Act.put, List.setIfInBounds_toArray, List.set_cons_zero, List.set_cons_succ]
            refine wpAnyH_take (i := 10) (oi := ?o10) (v := .int .i64 (k : Int)) ?h10 (by kernel_rfl) (by kernel_rfl) (by kernel_rfl) (fun _ _ _ h => h) ?y10 (by assumption) ?r10
            case h10 => (simp only [List.getElem?_toArray, List.getElem?_cons_zero, List.getElem?_cons_succ]; rfl)
            case y10 => exact Or.inl ⟨by rfl, by (intro W hSw; (try dsimp only at hSw); obtain ⟨s0, a0, a1, a2, a3, a4, a5, a6, b0, b1, b2, b3, b4, b5, b6⟩ := hSw; go_simp)⟩
            simp only [Act.put, List.setIfInBounds_toArray, List.set_cons_zero, List.set_cons_succ]
            refine wpAnyH_take (i := 11) (oi := ?o11) (v := .pointer (some ⟨b, off + k * 7, none⟩)) ?h11 (by kernel_rfl) (by kernel_rfl) (by kernel_rfl) (fun _ _ _ h => h) ?y11 (by assumption) ?r11
            case h11 => (simp only [List.getElem?_toArray, List.getElem?_cons_zero, List.getElem?_cons_succ]; rfl)
            case y11 => exact Or.inl ⟨by rfl, by (intro W hSw; (try dsimp only at hSw); obtain ⟨s0, a0, a1, a2, a3, a4, a5, a6, b0, b1, b2, b3, b4, b5, b6⟩ := hSw; go_simp)⟩
            simp only [Act.put, List.setIfInBounds_toArray, List.set_cons_zero, List.set_cons_succ]
            refine wpAnyH_take (i := 12) (oi := ?o12) (v := iv x) ?h12 (by kernel_rfl) (by kernel_rfl) (by kernel_rfl) (fun _ _ _ h => h) ?y12 (by assumption) ?r12
            case h12 => (simp only [List.getElem?_toArray, List.getElem?_cons_zero, List.getElem?_cons_succ]; rfl)
            case y12 => exact Or.inl ⟨by rfl, by (intro W hSw; (try dsimp only at hSw); obtain ⟨s0, a0, a1, a2, a3, a4, a5, a6, b0, b1, b2, b3, b4, b5, b6⟩ := hSw; go_simp)⟩
            simp only [Act.put, List.setIfInBounds_toArray, List.set_cons_zero, List.set_cons_succ]
            refine wpAnyH_ready (rs := [13]) (by kernel_rfl) (by simp) ?_
            refine AllReadyH.cons (o := ?o13) ?h13 (fun K hK => ?r13) AllReadyH.nil
            case h13 => (simp only [List.getElem?_toArray, List.getElem?_cons_zero, List.getElem?_cons_succ]; rfl)
            go_simp
            refine (HC.out _).mono ?_
            rintro r w5 ⟨rfl, k5⟩
            refine hK.out _ _ (p2_old hHeld k5) (fun hHeld2 => ?_)
            clear hK K
            try simp only [Act.put, List.setIfInBounds_toArray, List.set_cons_zero, List.set_cons_succ]
            refine wpAnyH_take (i := 14) (oi := ?o14) (v := .bool false) ?h14 (by kernel_rfl) (by kernel_rfl) (by kernel_rfl) (fun _ _ _ h => h) ?y14 (by assumption) ?r14
            case h14 => (simp only [List.getElem?_toArray, List.getElem?_cons_zero, List.getElem?_cons_succ]; rfl)
            case y14 => exact Or.inl ⟨by rfl, by (intro W hSw; (try dsimp only at hSw); obtain ⟨s0, a0, a1, a2, a3, a4, a5, a6, b0, b1, b2, b3, b4, b5, b6⟩ := hSw; go_simp)⟩
            simp only [Act.put, List.setIfInBounds_toArray, List.set_cons_zero, List.set_cons_succ]
            refine wpAnyH_take (i := 15) (oi := ?o15) (v := .bool false) ?h15 (by kernel_rfl) (by kernel_rfl) (by kernel_rfl) (fun _ _ _ h => h) ?y15 (by assumption) ?r15
            case h15 => (simp only [List.getElem?_toArray, List.getElem?_cons_zero, List.getElem?_cons_succ]; rfl)
            case y15 => exact Or.inl ⟨by rfl, by (intro W hSw; (try dsimp only at hSw); obtain ⟨s0, a0, a1, a2, a3, a4, a5, a6, b0, b1, b2, b3, b4, b5, b6⟩ := hSw; go_simp)⟩
            simp only [Act.put, List.setIfInBounds_toArray, List.set_cons_zero, List.set_cons_succ]
            refine wpAnyH_take (i := 16) (oi := ?o16) (v := .bool false) ?h16 (by kernel_rfl) (by kernel_rfl) (by kernel_rfl) (fun _ _ _ h => h) ?y16 (by assumption) ?r16
            case h16 => (simp only [List.getElem?_toArray, List.getElem?_cons_zero, List.getElem?_cons_succ]; rfl)
            case y16 => exact Or.inl ⟨by rfl, by (intro W hSw; (try dsimp only at hSw); obtain ⟨s0, a0, a1, a2, a3, a4, a5, a6, b0, b1, b2, b3, b4, b5, b6⟩ := hSw; go_simp)⟩
            simp only [Act.put, List.setIfInBounds_toArray, List.set_cons_zero, List.set_cons_succ]
            refine wpAnyH_take (i := 17) (oi := ?o17) (v := undef) ?h17 (by kernel_rfl) (by kernel_rfl) (by kernel_rfl) (fun _ _ _ h => h) ?y17 (by assumption) ?r17
            case h17 => (simp only [List.getElem?_toArray, List.getElem?_cons_zero, List.getElem?_cons_succ]; rfl)
            case y17 => exact Or.inr ⟨by rfl, rfl⟩
            simp only [Act.put, List.setIfInBounds_toArray, List.set_cons_zero, List.set_cons_succ]
            refine wpAnyH_take (i := 18) (oi := ?o18) (v := undef) ?h18 (by kernel_rfl) (by kernel_rfl) (by kernel_rfl) (fun _ _ _ h => h) ?y18 (by assumption) ?r18
            case h18 => (simp only [List.getElem?_toArray, List.getElem?_cons_zero, List.getElem?_cons_succ]; rfl)
            case y18 => exact Or.inr ⟨by rfl, rfl⟩
            simp only [Act.put, List.setIfInBounds_toArray, List.set_cons_zero, List.set_cons_succ]
            refine wpAnyH_take (i := 19) (oi := ?o19) (v := undef) ?h19 (by kernel_rfl) (by kernel_rfl) (by kernel_rfl) (fun _ _ _ h => h) ?y19 (by assumption) ?r19
            case h19 => (simp only [List.getElem?_toArray, List.getElem?_cons_zero, List.getElem?_cons_succ]; rfl)
            case y19 => exact Or.inr ⟨by rfl, rfl⟩
            simp only [Act.put, List.setIfInBounds_toArray, List.set_cons_zero, List.set_cons_succ]
            refine wpAnyH_take (i := 20) (oi := ?o20) (v := undef) ?h20 (by kernel_rfl) (by kernel_rfl) (by kernel_rfl) (fun _ _ _ h => h) ?y20 (by assumption) ?r20
            case h20 => (simp only [List.getElem?_toArray, List.getElem?_cons_zero, List.getElem?_cons_succ]; rfl)
            case y20 => exact Or.inr ⟨by rfl, rfl⟩
            simp only [Act.put, List.setIfInBounds_toArray, List.set_cons_zero, List.set_cons_succ]
            refine wpAnyH_take (i := 21) (oi := ?o21) (v := undef) ?h21 (by kernel_rfl) (by kernel_rfl) (by kernel_rfl) (fun _ _ _ h => h) ?y21 (by assumption) ?r21
            case h21 => (simp only [List.getElem?_toArray, List.getElem?_cons_zero, List.getElem?_cons_succ]; rfl)
            case y21 => exact Or.inr ⟨by rfl, rfl⟩
            simp only [Act.put, List.setIfInBounds_toArray, List.set_cons_zero, List.set_cons_succ]
            refine wpAnyH_take (i := 22) (oi := ?o22) (v := undef) ?h22 (by kernel_rfl) (by kernel_rfl) (by kernel_rfl) (fun _ _ _ h => h) ?y22 (by assumption) ?r22
            case h22 => (simp only [List.getElem?_toArray, List.getElem?_cons_zero, List.getElem?_cons_succ]; rfl)
            case y22 => exact Or.inr ⟨by rfl, rfl⟩
            simp only [Act.put, List.setIfInBounds_toArray, List.set_cons_zero, List.set_cons_succ]
            refine wpAnyH_take (i := 23) (oi := ?o23) (v := undef) ?h23 (by kernel_rfl) (by kernel_rfl) (by kernel_rfl) (fun _ _ _ h => h) ?y23 (by assumption) ?r23
            case h23 => (simp only [List.getElem?_toArray, List.getElem?_cons_zero, List.getElem?_cons_succ]; rfl)
            case y23 => exact Or.inr ⟨by rfl, rfl⟩
            simp only [Act.put, List.setIfInBounds_toArray, List.set_cons_zero, List.set_cons_succ]
            refine wpAnyH_take (i := 24) (oi := ?o24) (v := undef) ?h24 (by kernel_rfl) (by kernel_rfl) (by kernel_rfl) (fun _ _ _ h => h) ?y24 (by assumption) ?r24
            case h24 => (simp only [List.getElem?_toArray, List.getElem?_cons_zero, List.getElem?_cons_succ]; rfl)
            case y24 => exact Or.inr ⟨by rfl, rfl⟩
            simp only [Act.put, List.setIfInBounds_toArray, List.set_cons_zero, List.set_cons_succ]
            refine wpAnyH_take (i := 25) (oi := ?o25) (v := undef) ?h25 (by kernel_rfl) (by kernel_rfl) (by kernel_rfl) (fun _ _ _ h => h) ?y25 (by assumption) ?r25
            case h25 => (simp only [List.getElem?_toArray, List.getElem?_cons_zero, List.getElem?_cons_succ]; rfl)
            case y25 => exact Or.inr ⟨by rfl, rfl⟩
            simp only [Act.put, List.setIfInBounds_toArray, List.set_cons_zero, List.set_cons_succ]
            refine wpAnyH_take (i := 26) (oi := ?o26) (v := undef) ?h26 (by kernel_rfl) (by kernel_rfl) (by kernel_rfl) (fun _ _ _ h => h) ?y26 (by assumption) ?r26
            case h26 => (simp only [List.getElem?_toArray, List.getElem?_cons_zero, List.getElem?_cons_succ]; rfl)
            case y26 => exact Or.inr ⟨by rfl, rfl⟩
            simp only [Act.put, List.setIfInBounds_toArray, List.set_cons_zero, List.set_cons_succ]
            refine wpAnyH_take (i := 27) (oi := ?o27) (v := undef) ?h27 (by kernel_rfl) (by kernel_rfl) (by kernel_rfl) (fun _ _ _ h => h) ?y27 (by assumption) ?r27
            case h27 => (simp only [List.getElem?_toArray, List.getElem?_cons_zero, List.getElem?_cons_succ]; rfl)
            case y27 => exact Or.inr ⟨by rfl, rfl⟩
            simp only [Act.put, List.setIfInBounds_toArray, List.set_cons_zero, List.set_cons_succ]
            refine wpAnyH_take (i := 28) (oi := ?o28) (v := undef) ?h28 (by kernel_rfl) (by kernel_rfl) (by kernel_rfl) (fun _ _ _ h => h) ?y28 (by assumption) ?r28
            case h28 => (simp only [List.getElem?_toArray, List.getElem?_cons_zero, List.getElem?_cons_succ]; rfl)
            case y28 => exact Or.inr ⟨by rfl, rfl⟩
            simp only [Act.put, List.setIfInBounds_toArray, List.set_cons_zero, List.set_cons_succ]
            refine wpAnyH_take (i := 29) (oi := ?o29) (v := .bool false) ?h29 (by kernel_rfl) (by kernel_rfl) (by kernel_rfl) (fun _ _ _ h => h) ?y29 (by assumption) ?r29
            case h29 => (simp only [List.getElem?_toArray, List.getElem?_cons_zero, List.getElem?_cons_succ]; rfl)
            case y29 => exact Or.inl ⟨by rfl, by (intro W hSw; (try dsimp only at hSw); obtain ⟨s0, a0, a1, a2, a3, a4, a5, a6, b0, b1, b2, b3, b4, b5, b6⟩ := hSw; go_simp)⟩
            simp only [Act.put, List.setIfInBounds_toArray, List.set_cons_zero, List.set_cons_succ]
            refine wpAnyH_done (by kernel_rfl) ?_ _
            refine NoPanic.normal ?_
            have f9 : Old wr w5 := hHeld2.1
            clear hHeld hHeld2 hS
            have HO1 := Lib.hid (HO.out.old f9)
            have HXY1 := Lib.hid (And.intro (HXY.out.1.old f9) (HXY.out.2.old f9))
            have o2 := o1.tr f9
            clear HO HXY f9 o1
            cases hsm : sameI y x with
            | true =>
              have hS := p2_of HXY1.out.1 HXY1.out.2
              have HM := Lib.hid fun W => rsame_at y x true hsm W
              go_upto_region 9 with (fail)
              go_region_held3 (fun W => Old w5 W ∧ W.cell? ⟨g, j * 7, none⟩ = some (.string (B y.c.row)) ∧ W.cell? ⟨g, j * 7 + 1, none⟩ = some (.string (B y.c.col)) ∧ W.cell? ⟨g, j * 7 + 2, none⟩ = some (.int .u64 y.c.ts) ∧ W.cell? ⟨g, j * 7 + 3, none⟩ = some (.int .u64 y.c.seq) ∧ W.cell? ⟨g, j * 7 + 4, none⟩ = some (.bool y.c.del) ∧ W.cell? ⟨g, j * 7 + 5, none⟩ = some (.string (B y.c.val)) ∧ W.cell? ⟨g, j * 7 + 6, none⟩ = some (.int .i64 y.pos) ∧ W.cell? ⟨b, off + k * 7, none⟩ = some (.string (B x.c.row)) ∧ W.cell? ⟨b, off + k * 7 + 1, none⟩ = some (.string (B x.c.col)) ∧ W.cell? ⟨b, off + k * 7 + 2, none⟩ = some (.int .u64 x.c.ts) ∧ W.cell? ⟨b, off + k * 7 + 3, none⟩ = some (.int .u64 x.c.seq) ∧ W.cell? ⟨b, off + k * 7 + 4, none⟩ = some (.bool x.c.del) ∧ W.cell? ⟨b, off + k * 7 + 5, none⟩ = some (.string (B x.c.val)) ∧ W.cell? ⟨b, off + k * 7 + 6, none⟩ = some (.int .i64 x.pos)) (first | exact ⟨hS.1.dr, hS.2⟩ | exact p2_old (by assumption) (by assumption))
                (first
                  | (go_at_call 23; with_reducible refine (HM.out _).mono ?_; rintro r w7 ⟨rfl, h1b⟩))
              rename_i hHeldB
              have f7 : Old w5 w7 := hHeldB.1
              clear hHeldB hS
              have HO2 := Lib.hid (HO1.out.old f7)
              have HXY2 := Lib.hid (And.intro (HXY1.out.1.old f7) (HXY1.out.2.old f7))
              have o3 := o2.tr f7
              clear HO1 HXY1 f7 o2 h1b HM
              obtain ⟨HR1, HR2⟩ : Hid (y.pos < x.pos → IsRes (l.take (k + 1)) (out.set j x)) ∧ Hid (¬ y.pos < x.pos → IsRes (l.take (k + 1)) out) := res_same HR.out HX.out HY.out ((sameI_iff _ _).1 hsm)
              have HFR := Lib.hid (show ∀ z, w7.frozen? ⟨g, z, none⟩ = false from fun z => Bk.fr HO2.out z)
              by_cases hpos : y.pos < x.pos
              · have hdp : decide (y.pos < x.pos) = true := by simpa using hpos
                go_upto_region 10 with (fail)
                obtain ⟨y0, y1, y2, y3, y4, y5, y6⟩ := HXY2.out.1.held
                obtain ⟨x0, x1, x2, x3, x4, x5, x6⟩ := HXY2.out.2.held
                go_quiet (fail)
                clear x0 x1 x2 x3 x4 x5 x6 y0 y1 y2 y3 y4 y5 y6 hdp HFR
                have f8 : Old w7 (w7.drewN nq) := (Old.re _).dn nq
                have o5 := o3.tr f8
                have HO3 := Lib.hid (HO2.out.old f8)
                have HXY3 := Lib.hid (And.intro (HXY2.out.1.old f8) (HXY2.out.2.old f8))
                clear HO2 HXY2 o3 f8
                generalize w7.drewN nq = w8 at *
                have fr := fun z => Bk.fr HO3.out z
                obtain ⟨y0, y1, y2, y3, y4, y5, y6⟩ := HXY3.out.1.held
                obtain ⟨x0, x1, x2, x3, x4, x5, x6⟩ := HXY3.out.2.held
                go_wp2
                have o4 := o5.putI hg (j * 7) x
                have hf := bk_put HO3.out (i := j) hj x
                unfold putI at o4 hf
                have HG := Lib.hid hf
                clear hf x0 x1 x2 x3 x4 x5 x6 y0 y1 y2 y3 y4 y5 y6 fr HO3 HXY3
                go_roundw
                case rel => exact ⟨k + 1, g, cap2, out.set j x, rr, by go_num, by omega, by rw [List.length_set], by rw [List.length_set]; omega, o4, hg, by rw [List.length_set]; omega, hmx, Lib.hid (HR1.out hpos), Lib.hid (by rw [List.length_set]; exact ⟨HG.out, HCR.out⟩)⟩
                case measure => simp [intOf]; omega
              · have hdp : decide (y.pos < x.pos) = false := by simpa using hpos
                go_upto_region 10 with (fail)
                obtain ⟨y0, y1, y2, y3, y4, y5, y6⟩ := HXY2.out.1.held
                obtain ⟨x0, x1, x2, x3, x4, x5, x6⟩ := HXY2.out.2.held
                go_quiet (fail)
                clear x0 x1 x2 x3 x4 x5 x6 y0 y1 y2 y3 y4 y5 y6
                go_wp2
                go_roundw
                case rel => exact ⟨k + 1, g, cap2, out, rr, by go_num, by omega, rfl, by omega, o3.dn _, hg, hcap, hmx, Lib.hid (HR2.out hpos), Lib.hid ⟨HO2.out, HCR.out⟩⟩
                case measure => simp [intOf]; omega
            | false =>
              have hS := p2_of HXY1.out.1 HXY1.out.2
              have HM := Lib.hid fun W => rsame_at y x false hsm W
              go_upto_region 9 with (fail)
              go_region_held3 (fun W => Old w5 W ∧ W.cell? ⟨g, j * 7, none⟩ = some (.string (B y.c.row)) ∧ W.cell? ⟨g, j * 7 + 1, none⟩ = some (.string (B y.c.col)) ∧ W.cell? ⟨g, j * 7 + 2, none⟩ = some (.int .u64 y.c.ts) ∧ W.cell? ⟨g, j * 7 + 3, none⟩ = some (.int .u64 y.c.seq) ∧ W.cell? ⟨g, j * 7 + 4, none⟩ = some (.bool y.c.del) ∧ W.cell? ⟨g, j * 7 + 5, none⟩ = some (.string (B y.c.val)) ∧ W.cell? ⟨g, j * 7 + 6, none⟩ = some (.int .i64 y.pos) ∧ W.cell? ⟨b, off + k * 7, none⟩ = some (.string (B x.c.row)) ∧ W.cell? ⟨b, off + k * 7 + 1, none⟩ = some (.string (B x.c.col)) ∧ W.cell? ⟨b, off + k * 7 + 2, none⟩ = some (.int .u64 x.c.ts) ∧ W.cell? ⟨b, off + k * 7 + 3, none⟩ = some (.int .u64 x.c.seq) ∧ W.cell? ⟨b, off + k * 7 + 4, none⟩ = some (.bool x.c.del) ∧ W.cell? ⟨b, off + k * 7 + 5, none⟩ = some (.string (B x.c.val)) ∧ W.cell? ⟨b, off + k * 7 + 6, none⟩ = some (.int .i64 x.pos)) (first | exact ⟨hS.1.dr, hS.2⟩ | exact p2_old (by assumption) (by assumption))
                (first
                  | (go_at_call 23; with_reducible refine (HM.out _).mono ?_; rintro r w7 ⟨rfl, h1b⟩))
              rename_i hHeldB
              have f7 : Old w5 w7 := hHeldB.1
              clear hHeldB hS
              have HOW := Lib.hid (HO1.out.old f7)
              have HXW := Lib.hid (HXY1.out.2.old f7)
              have o3 := o2.tr f7
              clear HO1 HXY1 f7 o2 h1b HM
              have HRI := Lib.hid (res_none HR.out HX.out HA.out (fun _ => ⟨y, HY.out, res_gt (by omega) hsm⟩))
              clear hj
              have hj : j ≤ out.length := by omega
              go_upto_region 8 with (fail)
              obtain ⟨off2, hif, hC2⟩ : ∃ off2 : Nat, (if cap2 = j then some (⟨g, 0, none⟩ : Addr) else some ⟨g, j * 7, none⟩) = some ⟨g, off2, none⟩ ∧ ItsAt w7 g off2 (out.drop j) := by
                by_cases q : cap2 = j
                · refine ⟨0, if_pos q, ?_⟩
                  rw [List.drop_of_length_le (by omega)]
                  intro i c hc
                  simp at hc
                · refine ⟨j * 7, if_neg q, ?_⟩
                  have := (bk_its HOW.out).drop_ j
                  rwa [Nat.zero_add] at this
              have hIA := (bk_its HOW.out).take_ j
              have z1 : (0 : Int) ≤ (j : Int) := by omega
              have z2 : (j : Int) ≤ (cap2 : Int) := by omega
              have z3 : (j : Int) ≤ (out.length : Int) := by omega
              have z4 : (out.length : Int) ≤ (cap2 : Int) := by omega
              have z5 : j ≤ cap2 := by omega
              have hx7 := HXW.out
              obtain ⟨x0, x1, x2, x3, x4, x5, x6⟩ := hx7.held
              have hIx : ∀ W, Old w7 W → Itms W (.slice (some ⟨g, 0, none⟩) j cap2) (out.take j) := fun W k => .inr ⟨⟨g, 0, none⟩, cap2, by rw [List.length_take, Nat.min_eq_left hj], by simp; omega, fun _ => ⟨g, 0, rfl, hIA.old k⟩⟩
              have hIy : ∀ W, Old w7 W → Itms W (.slice (some ⟨g, off2, none⟩) (out.length - j) (cap2 - j)) (out.drop j) := fun W k => .inr ⟨⟨g, off2, none⟩, cap2 - j, by simp, by simp; omega, fun _ => ⟨g, off2, rfl, hC2.old k⟩⟩
              go_region_held_law (fun W => Old w7 W ∧ W.cell? ⟨b, off + k * 7, none⟩ = some (.string (B x.c.row)) ∧ W.cell? ⟨b, off + k * 7 + 1, none⟩ = some (.string (B x.c.col)) ∧ W.cell? ⟨b, off + k * 7 + 2, none⟩ = some (.int .u64 x.c.ts) ∧ W.cell? ⟨b, off + k * 7 + 3, none⟩ = some (.int .u64 x.c.seq) ∧ W.cell? ⟨b, off + k * 7 + 4, none⟩ = some (.bool x.c.del) ∧ W.cell? ⟨b, off + k * 7 + 5, none⟩ = some (.string (B x.c.val)) ∧ W.cell? ⟨b, off + k * 7 + 6, none⟩ = some (.int .i64 x.pos)) (exact keep7 hx7 (by repeat (first | with_reducible exact Old.re _ | with_reducible assumption | with_reducible apply Old.al | with_reducible apply Old.dr | with_reducible apply Old.dn)))
                (first
                  | (refine step_itsN rfl _ rfl (.tmp 45) (.tmp 48) 40 56 Try.underlying40 Try.infoItemR rfl (W0 := w7) (by repeat (first | with_reducible exact Old.re _ | with_reducible assumption | with_reducible apply Old.al | with_reducible apply Old.dr | with_reducible apply Old.dn)) _ [] (out.take j) rfl (OwnN.empty (by first | with_reducible exact (new_bk _ _ _).drew | with_reducible exact ((new_bk _ _ _).alloc _).drew | with_reducible exact (new_bk1 _ _ _ _).drew) (by simp)) (.slice (some ⟨g, 0, none⟩) j cap2) rfl (hIx _ (by repeat (first | with_reducible exact Old.re _ | with_reducible assumption | with_reducible apply Old.al | with_reducible apply Old.dr | with_reducible apply Old.dn))) (by simp; omega) ?_; intro v3 w3 n3 oo3 hk3; rw [List.nil_append] at n3)
                  | (refine step_itsN rfl _ rfl (.tmp 49) (.tmp 54) 40 56 Try.underlying40 Try.infoItemR rfl (W0 := w7) (by repeat (first | with_reducible exact Old.re _ | with_reducible assumption | with_reducible apply Old.al | with_reducible apply Old.dr | with_reducible apply Old.dn)) v3 (out.take j) [x] rfl (by first | with_reducible exact n3 | with_reducible exact n3.old (old_alloc _ _)) _ rfl (one_its (e := 56) (by first | with_reducible exact new_bk _ _ _ | (refine hk3 _ _ _ ?_ (by simp [Act.eval, Value.ownBlock]); first | with_reducible exact (new_bk _ _ _).drew | with_reducible exact ((new_bk _ _ _).alloc _).drew | with_reducible exact (new_bk1 _ _ _ _).drew))) (by simp; omega) ?_; intro v4 w4 n4 o4 hk4)
                  | (refine step_itsN rfl _ rfl (.tmp 55) (.tmp 58) 40 56 Try.underlying40 Try.infoItemR rfl (W0 := w7) o4 v4 (out.take j ++ [x]) (out.drop j) rfl n4 (.slice (some ⟨g, off2, none⟩) (out.length - j) (cap2 - j)) rfl (hIy _ o4) (by simp; omega) ?_; intro v5 w9 n5 o5 hk5))
              all_goals clear z1 z2 z3 z4 z5 hk3 hk4 hk5 n3 n4 oo3 o4 hif hC2 hIA hx7 hIx hIy x0 x1 x2 x3 x4 x5 x6 HOW HXW
              all_goals
                rw [List.append_assoc, List.singleton_append] at n5
                have n6 : OwnN 56 w9 w.heap.size v5 (out.take j ++ x :: out.drop j) := n5.low (o3).size
                obtain ⟨g5, cap5, r5, rfl, hg5, hc5, hb5, hr5, hm5⟩ := n6.form
                have o6 := (o3).tr o5
                have HN := Lib.hid (And.intro hb5 hr5)
                have hl5 : (out.take j ++ x :: out.drop j).length = out.length + 1 := by simp; omega
                clear n5 n6 hb5 hr5 o5
                go_wp2
                go_roundw
                case rel => exact ⟨k + 1, g5, cap5, out.take j ++ x :: out.drop j, r5, by go_num, by omega, by rw [hl5], by omega, o6, hg5, hc5, hm5, Lib.hid HRI.out, HN⟩
                case measure => simp [intOf]; omega
        · have HRI := Lib.hid (res_none (j := j) HR.out HX.out HA.out (fun h => absurd h (by omega)))
          have hb5 : decide ((j : Int) < (out.length : Int)) = false := by simpa using hjl
          go_upto_region 6 with (fail)
          go_quiet (fail)
          have f7 : Old wr (wr.drewN nq) := (Old.re _).dn nq
          have HO7 := Lib.hid (HO.out.old f7)
          have HX7 := Lib.hid (HXb.out.old f7)
          have o7 := o1.tr f7
          clear HO HXb o1 f7
          generalize wr.drewN nq = w7 at *
          go_upto_region 9 with (fail)
          go_quiet (fail)
          have f8 : Old w7 (w7.drewN nq) := (Old.re _).dn nq
          have o5 := o7.tr f8
          have HOW := Lib.hid (HO7.out.old f8)
          have HXW := Lib.hid (HX7.out.old f8)
          clear HO7 HX7 o7 f8
          generalize w7.drewN nq = w8 at *
          go_upto_region 8 with (fail)
          obtain ⟨off2, hif, hC2⟩ : ∃ off2 : Nat, (if cap2 = j then some (⟨g, 0, none⟩ : Addr) else some ⟨g, j * 7, none⟩) = some ⟨g, off2, none⟩ ∧ ItsAt w8 g off2 (out.drop j) := by
            by_cases q : cap2 = j
            · refine ⟨0, if_pos q, ?_⟩
              rw [List.drop_of_length_le (by omega)]
              intro i c hc
              simp at hc
            · refine ⟨j * 7, if_neg q, ?_⟩
              have := (bk_its HOW.out).drop_ j
              rwa [Nat.zero_add] at this
          have hIA := (bk_its HOW.out).take_ j
          have z1 : (0 : Int) ≤ (j : Int) := by omega
          have z2 : (j : Int) ≤ (cap2 : Int) := by omega
          have z3 : (j : Int) ≤ (out.length : Int) := by omega
          have z4 : (out.length : Int) ≤ (cap2 : Int) := by omega
          have z5 : j ≤ cap2 := by omega
          have hx7 := HXW.out
          obtain ⟨x0, x1, x2, x3, x4, x5, x6⟩ := hx7.held
          have hIx : ∀ W, Old w8 W → Itms W (.slice (some ⟨g, 0, none⟩) j cap2) (out.take j) := fun W k => .inr ⟨⟨g, 0, none⟩, cap2, by rw [List.length_take, Nat.min_eq_left hj], by simp; omega, fun _ => ⟨g, 0, rfl, hIA.old k⟩⟩
          have hIy : ∀ W, Old w8 W → Itms W (.slice (some ⟨g, off2, none⟩) (out.length - j) (cap2 - j)) (out.drop j) := fun W k => .inr ⟨⟨g, off2, none⟩, cap2 - j, by simp, by simp; omega, fun _ => ⟨g, off2, rfl, hC2.old k⟩⟩
          go_region_held_law (fun W => Old w8 W ∧ W.cell? ⟨b, off + k * 7, none⟩ = some (.string (B x.c.row)) ∧ W.cell? ⟨b, off + k * 7 + 1, none⟩ = some (.string (B x.c.col)) ∧ W.cell? ⟨b, off + k * 7 + 2, none⟩ = some (.int .u64 x.c.ts) ∧ W.cell? ⟨b, off + k * 7 + 3, none⟩ = some (.int .u64 x.c.seq) ∧ W.cell? ⟨b, off + k * 7 + 4, none⟩ = some (.bool x.c.del) ∧ W.cell? ⟨b, off + k * 7 + 5, none⟩ = some (.string (B x.c.val)) ∧ W.cell? ⟨b, off + k * 7 + 6, none⟩ = some (.int .i64 x.pos)) (exact keep7 hx7 (by repeat (first | with_reducible exact Old.re _ | with_reducible assumption | with_reducible apply Old.al | with_reducible apply Old.dr | with_reducible apply Old.dn)))
            (first
              | (refine step_itsN rfl _ rfl (.tmp 45) (.tmp 48) 40 56 Try.underlying40 Try.infoItemR rfl (W0 := w8) (by repeat (first | with_reducible exact Old.re _ | with_reducible assumption | with_reducible apply Old.al | with_reducible apply Old.dr | with_reducible apply Old.dn)) _ [] (out.take j) rfl (OwnN.empty (by first | with_reducible exact (new_bk _ _ _).drew | with_reducible exact ((new_bk _ _ _).alloc _).drew | with_reducible exact (new_bk1 _ _ _ _).drew) (by simp)) (.slice (some ⟨g, 0, none⟩) j cap2) rfl (hIx _ (by repeat (first | with_reducible exact Old.re _ | with_reducible assumption | with_reducible apply Old.al | with_reducible apply Old.dr | with_reducible apply Old.dn))) (by simp; omega) ?_; intro v3 w3 n3 o3 hk3; rw [List.nil_append] at n3)
              | (refine step_itsN rfl _ rfl (.tmp 49) (.tmp 54) 40 56 Try.underlying40 Try.infoItemR rfl (W0 := w8) (by repeat (first | with_reducible exact Old.re _ | with_reducible assumption | with_reducible apply Old.al | with_reducible apply Old.dr | with_reducible apply Old.dn)) v3 (out.take j) [x] rfl (by first | with_reducible exact n3 | with_reducible exact n3.old (old_alloc _ _)) _ rfl (one_its (e := 56) (by first | with_reducible exact new_bk _ _ _ | (refine hk3 _ _ _ ?_ (by simp [Act.eval, Value.ownBlock]); first | with_reducible exact (new_bk _ _ _).drew | with_reducible exact ((new_bk _ _ _).alloc _).drew | with_reducible exact (new_bk1 _ _ _ _).drew))) (by simp; omega) ?_; intro v4 w4 n4 o4 hk4)
              | (refine step_itsN rfl _ rfl (.tmp 55) (.tmp 58) 40 56 Try.underlying40 Try.infoItemR rfl (W0 := w8) o4 v4 (out.take j ++ [x]) (out.drop j) rfl n4 (.slice (some ⟨g, off2, none⟩) (out.length - j) (cap2 - j)) rfl (hIy _ o4) (by simp; omega) ?_; intro v5 w9 n5 oo5 hk5))
          all_goals clear z1 z2 z3 z4 z5 hk3 hk4 hk5 n3 n4 o3 o4 hif hC2 hIA hx7 hIx hIy x0 x1 x2 x3 x4 x5 x6 HOW HXW
          all_goals
            rw [List.append_assoc, List.singleton_append] at n5
            have n6 : OwnN 56 w9 w.heap.size v5 (out.take j ++ x :: out.drop j) := n5.low (o5).size
            obtain ⟨g5, cap5, r5, rfl, hg5, hc5, hb5, hr5, hm5⟩ := n6.form
            have o6 := (o5).tr oo5
            have HN := Lib.hid (And.intro hb5 hr5)
            have hl5 : (out.take j ++ x :: out.drop j).length = out.length + 1 := by simp; omega
            clear n5 n6 hb5 hr5 oo5
            go_wp2
            go_roundw
            case rel => exact ⟨k + 1, g5, cap5, out.take j ++ x :: out.drop j, r5, by go_num, by omega, by rw [hl5], by omega, o6, hg5, hc5, hm5, Lib.hid HRI.out, HN⟩
            case measure => simp [intOf]; omega
    · obtain rfl : k = l.length := by omega
      have HF := Lib.hid (show IsRes l out by have := HR.out; rwa [List.take_length] at this)
      go_wp2
      go_ret
      exact ⟨_, out, rfl, HF.out, hok, o1, g, cap2, rr, rfl, hcap, HO.out.1⟩
end Go.Proofs.Ytbccpplpfcfboaa
