/-
  ManifestApplies: any edits, one behind the other, lead to the document's states, or its error, and files of any row, and of any rows of a level, are the document's: the law answers true, whatever comes in, and leaves all as it was. No conditions.
-/
import Derived.Test.YteglddggjkibcaaFRu2
namespace Go.Proofs.Yteglddggjkibcaa
open Go.ChangeShapes Go.WideShapes Go.ChangeAt Go.RowKit Go.Joins Go.Deep

set_option maxRecDepth 100000 in
set_option maxHeartbeats 16000000 in
theorem law_walk (l : List Ed) (v : Value) (row low high : List UInt8) (lv : Int) (hr : row.length ≤ maxLen) (hlo : low.length ≤ maxLen) (hhi : high.length ≤ maxLen) (w : World) (hl : Eds w v l) (hm : l.length ≤ maxLen) :
    Calls Try.prog 3 #[v, .string (B row), .string (B low), .string (B high), .int .i64 lv] w fun r w' => r = .returned (.bool true) ∧ Old w w' := by
  obtain ⟨A, cap, rfl, -⟩ := hl.form
  have HL := Lib.hid hl
  have hm2 : l.length ≤ 9223372036854775807 := by unfold maxLen at hm; omega
  have hr2 : row.length ≤ 9223372036854775807 := by unfold maxLen at hr; omega
  have hr3 : low.length ≤ 9223372036854775807 := by unfold maxLen at hlo; omega
  have hr4 : high.length ≤ 9223372036854775807 := by unfold maxLen at hhi; omega
  clear hl hm hr hlo hhi
  go_enter Try.func3, Try.ntmps3
  by_cases hc1 : l.length ≤ 10
  case neg =>
    go_wp2_with (go_at_call 9; refine (shown_any _).mono ?_; rintro r w1 ⟨rfl, o1⟩)
    go_ret
    exact ⟨rfl, o1⟩
  by_cases hc2 : row.length ≤ 100
  case neg =>
    go_wp2_with (go_at_call 9; refine (shown_any _).mono ?_; rintro r w1 ⟨rfl, o1⟩)
    go_ret
    exact ⟨rfl, o1⟩
  by_cases hc3 : low.length ≤ 100
  case neg =>
    go_wp2_with (go_at_call 9; refine (shown_any _).mono ?_; rintro r w1 ⟨rfl, o1⟩)
    go_ret
    exact ⟨rfl, o1⟩
  by_cases hc4 : high.length ≤ 100
  case neg =>
    go_wp2_with (go_at_call 9; refine (shown_any _).mono ?_; rintro r w1 ⟨rfl, o1⟩)
    go_ret
    exact ⟨rfl, o1⟩
  have d1 : decide ((10 : Int) < (l.length : Int)) = false := by simp; omega
  have d2 : decide ((100 : Int) < (row.length : Int)) = false := by simp; omega
  have d3 : decide ((100 : Int) < (low.length : Int)) = false := by simp; omega
  have d4 : decide ((100 : Int) < (high.length : Int)) = false := by simp; omega
  go_wp2_with fail
  refine (shown_any w).mono ?_
  rintro r w1 ⟨rfl, o1⟩
  go_wp2_with fail
  have hb := (new_bk w1 27 #[.slice none 0 0, .int .u64 0, .int .u64 0]).alloc (.cells #[.slice none 0 0, .int .u64 0, .int .u64 0] 30)
  have hb2 := new_bk1 w1 (.cells #[.slice none 0 0, .int .u64 0, .int .u64 0] 27) 30 #[.slice none 0 0, .int .u64 0, .int .u64 0]
  have O2 := (o1.al (.cells #[.slice none 0 0, .int .u64 0, .int .u64 0] 27)).al (.cells #[.slice none 0 0, .int .u64 0, .int .u64 0] 30)
  have HS2 : Hid (Sbox ((w1.alloc (.cells #[.slice none 0 0, .int .u64 0, .int .u64 0] 27)).alloc (.cells #[.slice none 0 0, .int .u64 0, .int .u64 0] 30)) w1.heap.size w.heap.size St0 ∧ Rbox ((w1.alloc (.cells #[.slice none 0 0, .int .u64 0, .int .u64 0] 27)).alloc (.cells #[.slice none 0 0, .int .u64 0, .int .u64 0] 30)) (w1.heap.size + 1) w.heap.size St0) := Lib.hid ⟨⟨_, hb, OwnE.nil _ _ _⟩, ⟨_, hb2, OwnE.nil _ _ _⟩⟩
  have hg := o1.size
  generalize (w1.alloc (.cells #[.slice none 0 0, .int .u64 0, .int .u64 0] 27)).alloc (.cells #[.slice none 0 0, .int .u64 0, .int .u64 0] 30) = w2 at *
  obtain ⟨g, hgg⟩ : ∃ g, g = w1.heap.size := ⟨_, rfl⟩
  rw [← hgg] at HS2 hg ⊢
  clear hb hb2 o1 hgg
  go_loopw [13] (fun iv wr => ∃ (k : Nat) (s : St), iv = .int .i64 k ∧ k ≤ l.length ∧ Old w wr ∧ Hid (Sbox wr g w.heap.size s ∧ Rbox wr (g + 1) w.heap.size s ∧ Runs k s)) (fun iv _ => l.length - (intOf iv).toNat)
  case atStart => exact ⟨0, St0, rfl, Nat.zero_le _, O2, Lib.hid ⟨HS2.out.1, HS2.out.2, Runs.zero⟩⟩
  case round =>
    clear HS2 O2
    obtain ⟨k, s, rfl, hk, O3, HS⟩ := hrel
    obtain ⟨vs, hb, ho⟩ := HS.out.1
    obtain ⟨A5, c5, rfl, -⟩ := ho.form
    have HB := Lib.hid hb
    have HO := Lib.hid ho
    obtain ⟨vr, hbr, hor⟩ := HS.out.2.1
    obtain ⟨Ar, cr, rfl, -⟩ := hor.form
    have HBR := Lib.hid hbr
    have HOR := Lib.hid hor
    have HR := Lib.hid HS.out.2.2
    clear hb ho hbr hor HS
    have t0 : wr.cell? ⟨g, 0, none⟩ = some (.slice A5 s.files.length c5) := HB.out.cell 0
    have t1 : wr.cell? ⟨g, 1, none⟩ = some (.int .u64 (s.next : Int)) := HB.out.cell 1
    have t2 : wr.cell? ⟨g, 2, none⟩ = some (.int .u64 (s.fl : Int)) := HB.out.cell 2
    by_cases hlt : k < l.length
    · obtain ⟨e, HX⟩ : ∃ e, Hid (l[k]? = some e) := ⟨l[k], Lib.hid (List.getElem?_eq_getElem hlt)⟩
      obtain ⟨b, off, rfl, va, Ad, dc, ⟨y0, y1, y2, y3⟩, ha, hd, hl1, hl2, -, -⟩ := (HL.out.old O3).at_ HX.out
      obtain ⟨Aa, ca, rfl, -⟩ := ha.form
      have HA := Lib.hid ha
      have HD := Lib.hid hd
      have CS := Lib.hid (small_any wr _ Ad dc e ha hd hl1 (Nat.le_trans hd.1 hl2))
      have HY := Lib.hid (And.intro y0 (And.intro y1 (And.intro y2 y3)))
      clear ha hd hl1 hl2
      cases hsm : smallE e with
      | false =>
        rw [hsm] at CS
        clear hsm
        go_wp2_with fail
        refine CS.out.mono ?_
        rintro r w4 ⟨rfl, o4⟩
        have O4 := O3.tr o4
        clear CS o4 t0 t1 t2 y0 y1 y2 y3
        go_wp2_with (go_at_call 9; refine (shown_any _).mono ?_; rintro r w5 ⟨rfl, o5⟩)
        go_ret
        exact ⟨rfl, O4.tr o5⟩
      | true =>
        rw [hsm] at CS
        have HSM := Lib.hid hsm
        have HSG := Lib.hid (small_get hsm)
        clear hsm
        go_wp2_with fail
        refine CS.out.mono ?_
        rintro r w4 ⟨rfl, o4⟩
        have O4 := O3.tr o4
        have hS : ∀ W, Old w4 W → _ := fun W (q : Old w4 W) => ed_keep (g := g) (b := b) (o2 := off + k * 4) ⟨o4, cell_old t0 o4, cell_old t1 o4, cell_old t2 o4, cell_old y0 o4, cell_old y1 o4, cell_old y2 o4, cell_old y3 o4⟩ q
        have HB4 := Lib.hid (HB.out.old o4)
        have HO4 := Lib.hid (HO.out.old o4)
        have HA4 := Lib.hid (HA.out.old o4)
        have HD4 := Lib.hid (HD.out.old o4)
        obtain ⟨r2, hr2⟩ : ∃ r2, r2 = apF s e := ⟨_, rfl⟩
        have CA : ∀ W, Old w4 W → Calls Try.prog 11 #[.agg #[.slice A5 s.files.length c5, .int .u64 (s.next : Int), .int .u64 (s.fl : Int)], .agg #[.slice Aa e.add.length ca, .slice Ad e.del.length dc, .int .u64 (e.next : Int), .int .u64 (e.fl : Int)]] W (PostA W r2) := fun W q => by
          rw [hr2]
          obtain ⟨b1, b2, b3, b4⟩ := HSG.out
          have hlen := HR.out.len
          exact apply_any W s e HR.out.good _ _ Ad dc (HO4.out.its.old q) (HA4.out.old q) (HD4.out.old q) (by omega) (by omega) (by omega) HR.out.nm (fun x hx => by have := (b3 x hx).1; omega) (fun t ht => by have := b4 t ht; omega)
        have HCA := Lib.hid CA
        have HR2 := Lib.hid hr2
        obtain ⟨-, t0, t1, t2, y0, y1, y2, y3⟩ := hS w4 (Old.re _)
        have o4x := Lib.hid o4
        clear CA hr2 CS HB4 o4
        have hz4 := o4x.out.size
        have hg4 := cell_lt t0
        have hb4 := cell_lt y0
        have hb1 : (0 : Int) ≤ (k : Int) := by omega
        have hb2 : (k : Int) < (l.length : Int) := by omega
        go_wp2_with fail
        go_region_held3 (fun W => Old wr W ∧ W.cell? ⟨g, 0, none⟩ = some (.slice A5 s.files.length c5) ∧ W.cell? ⟨g, 1, none⟩ = some (.int .u64 (s.next : Int)) ∧ W.cell? ⟨g, 2, none⟩ = some (.int .u64 (s.fl : Int)) ∧ W.cell? ⟨b, off + k * 4, none⟩ = some (.slice Aa e.add.length ca) ∧ W.cell? ⟨b, off + k * 4 + 1, none⟩ = some (.slice Ad e.del.length dc) ∧ W.cell? ⟨b, off + k * 4 + 2, none⟩ = some (.int .u64 (e.next : Int)) ∧ W.cell? ⟨b, off + k * 4 + 3, none⟩ = some (.int .u64 (e.fl : Int)))
          (first | exact hS _ (Old.re _).dr | exact ed_far (hS _ (by assumption)) hz4 hg4 hb4 rfl | exact ed_new (hS _ (by assumption)) rfl | exact hS _ (by repeat (first | with_reducible exact Old.re _ | with_reducible assumption | with_reducible apply Old.al | with_reducible apply Old.dr | with_reducible apply Old.dn)))
          (first | (go_at_call 11; (with_reducible refine (HCA.out _ (by repeat (first | with_reducible exact Old.re _ | with_reducible assumption | with_reducible apply Old.al | with_reducible apply Old.dr | with_reducible apply Old.dn))).mono ?_); rintro r w5 ⟨v3, rfl, o5, n3⟩; obtain ⟨A3, c3, rfl, -⟩ := n3.form; (first
            | (have HK5 := Lib.hid ((new_bk w4 27 #[.slice none 0 0, .int .u64 0, .int .u64 0]).old ((Old.re _).dr.tr o5)); have HN5 := Lib.hid (n3.lower (O4.al (.cells #[.slice none 0 0, .int .u64 0, .int .u64 0] 27)).size); have O5 : Old w4 w5 := (((Old.re _).al _).dr).tr o5; have q0 : w5.cell? ⟨w4.heap.size, 0, none⟩ = some (.slice none 0 0) := (HK5.out.cell 0).trans rfl; have q1 : w5.cell? ⟨w4.heap.size, 1, none⟩ = some (.int .u64 0) := (HK5.out.cell 1).trans rfl; have q2 : w5.cell? ⟨w4.heap.size, 2, none⟩ = some (.int .u64 0) := (HK5.out.cell 2).trans rfl; have f0 := HK5.out.fr 0; have f1 := HK5.out.fr 1; have f2 := HK5.out.fr 2; have n3 := trivial)
            | (have HK5 := Lib.hid (new_bk w5 27 #[.slice none 0 0, .int .u64 0, .int .u64 0]); have HN5 := Lib.hid (n3.lower O4.size); have O5 : Old w4 w5 := ((Old.re w4).dr).tr o5; have q0 : (w5.alloc (.cells #[.slice none 0 0, .int .u64 0, .int .u64 0] 27)).cell? ⟨w5.heap.size, 0, none⟩ = some (.slice none 0 0) := (HK5.out.cell 0).trans rfl; have q1 : (w5.alloc (.cells #[.slice none 0 0, .int .u64 0, .int .u64 0] 27)).cell? ⟨w5.heap.size, 1, none⟩ = some (.int .u64 0) := (HK5.out.cell 1).trans rfl; have q2 : (w5.alloc (.cells #[.slice none 0 0, .int .u64 0, .int .u64 0] 27)).cell? ⟨w5.heap.size, 2, none⟩ = some (.int .u64 0) := (HK5.out.cell 2).trans rfl; have f0 := HK5.out.fr 0; have f1 := HK5.out.fr 1; have f2 := HK5.out.fr 2; have n3 := trivial))))
        all_goals
          rename_i hHeld
          clear hS hz4 hg4 hb4 HCA o4x HO4 HA4 HD4 y0 y1 y2 y3 t0 t1 t2 n3 O5 q0 q1 q2 f0 f1 f2
          first
            | (have hH2 : Old wr (w5.alloc (.cells #[.slice A3 r2.2.files.length c3, .int .u64 (r2.2.next : Int), .int .u64 (r2.2.fl : Int)] 27)) := hHeld.1
               have e3 := Lib.hid (new_bk w5 27 #[.slice A3 r2.2.files.length c3, .int .u64 (r2.2.next : Int), .int .u64 (r2.2.fl : Int)])
               have HN6 := Lib.hid (HN5.out.old (old_alloc w5 (.cells #[.slice A3 r2.2.files.length c3, .int .u64 (r2.2.next : Int), .int .u64 (r2.2.fl : Int)] 27)))
               have PK := And.intro hHeld (And.intro e3 HN6)
               clear hH2 HN5 HK5 hHeld e3 HN6
               generalize (w5.alloc (.cells #[.slice A3 r2.2.files.length c3, .int .u64 (r2.2.next : Int), .int .u64 (r2.2.fl : Int)] 27)) = w6 at *
               generalize w5.heap.size = h7 at *)
            | (have e0 := HK5.out.set_ 0 (.slice A3 r2.2.files.length c3)
               have e1 := e0.set_ 1 (.int .u64 (r2.2.next : Int))
               have e3 := Lib.hid (show Bk (((w5.setCell ⟨w4.heap.size, 0, none⟩ (.slice A3 r2.2.files.length c3)).setCell ⟨w4.heap.size, 1, none⟩ (.int .u64 (r2.2.next : Int))).setCell ⟨w4.heap.size, 2, none⟩ (.int .u64 (r2.2.fl : Int))) w4.heap.size 27 #[.slice A3 r2.2.files.length c3, .int .u64 (r2.2.next : Int), .int .u64 (r2.2.fl : Int)] from e1.set_ 2 (.int .u64 (r2.2.fl : Int)))
               have HN6 := Lib.hid (((HN5.out.far HK5.out (by decide) 0 (.slice A3 r2.2.files.length c3)).far e0 (by decide) 1 (.int .u64 (r2.2.next : Int))).far e1 (by decide) 2 (.int .u64 (r2.2.fl : Int)))
               have PK := And.intro hHeld (And.intro e3 HN6)
               clear HN5 HK5 e0 e1 hHeld e3 HN6
               generalize (((w5.setCell ⟨w4.heap.size, 0, none⟩ (.slice A3 r2.2.files.length c3)).setCell ⟨w4.heap.size, 1, none⟩ (.int .u64 (r2.2.next : Int))).setCell ⟨w4.heap.size, 2, none⟩ (.int .u64 (r2.2.fl : Int))) = w6 at *
               generalize w4.heap.size = h7 at *)
          clear n3 o5
          clear w5
          revert PK
          revert h7
          revert w6
          revert c3
          revert A3
        refine ?KK10
        rotate_left
        exact ?KK10
        all_goals
          intro A3 c3 w6 h7 PK
          obtain ⟨hHeld, e3, HN6⟩ := PK
          obtain ⟨O6, t0, t1, t2, -⟩ := hHeld
          have O7 := O3.tr O6
          have HB6 := Lib.hid (HB.out.old O6)
          have HO6 := Lib.hid (HO.out.old O6)
          have HBR6 := Lib.hid (HBR.out.old O6)
          have HOR6 := Lib.hid (HOR.out.old O6)
          have HA6 := Lib.hid (HA.out.old O6)
          have HD6 := Lib.hid (HD.out.old O6)
          obtain ⟨Y0, Y1, Y2, Y3⟩ := HY.out
          have y0 := cell_old Y0 O6
          have y1 := cell_old Y1 O6
          have y2 := cell_old Y2 O6
          have y3 := cell_old Y3 O6
          have r0 : w6.cell? ⟨g + 1, 0, none⟩ = some (.slice Ar s.files.length cr) := HBR6.out.cell 0
          have r1 : w6.cell? ⟨g + 1, 1, none⟩ = some (.int .u64 (s.next : Int)) := HBR6.out.cell 1
          have r3 : w6.cell? ⟨g + 1, 2, none⟩ = some (.int .u64 (s.fl : Int)) := HBR6.out.cell 2
          have hS : ∀ W, Old w6 W → _ := fun W (q : Old w6 W) => ed_keep (g := g + 1) (b := b) (o2 := off + k * 4) ⟨Old.re w6, r0, r1, r3, y0, y1, y2, y3⟩ q
          have CE : ∀ W, Old w6 W → Calls Try.prog 13 #[.agg #[.slice Aa e.add.length ca, .slice Ad e.del.length dc, .int .u64 (e.next : Int), .int .u64 (e.fl : Int)]] W fun r w' => ∃ u, r = .returned (RdV u Ad e.del.length dc e) ∧ Old W w' ∧ OwnE 75 w' W.heap.size u e.add := fun W q => by
            have h1 := HSG.out.1
            exact edit_any W _ Ad e.del.length dc e (HA6.out.old q) (by omega)
          have CR : ∀ (u : Value) W, Old w6 W → Itms W u e.add → Calls Try.prog 12 #[.agg #[.slice Ar s.files.length cr, .int .u64 (s.next : Int), .int .u64 (s.fl : Int)], .agg #[u, .slice Ad e.del.length dc, .int .u64 (e.next : Int), .int .u64 (e.fl : Int)]] W (PostR W r2) := fun u W q hu => by
            rw [HR2.out]
            obtain ⟨b1, b2, b3, b4⟩ := HSG.out
            have hlen := HR.out.len
            exact rapply_any W s e _ u Ad dc (HOR6.out.its.old q) hu (HD6.out.old q) (by omega) (by omega) (by omega)
          have HCE := Lib.hid CE
          have HCR := Lib.hid CR
          have hz6 := Nat.le_refl w6.heap.size
          have hg6 := cell_lt r0
          have hb6 := cell_lt y0
          have hb1 : (0 : Int) ≤ (k : Int) := by omega
          have hb2 : (k : Int) < (l.length : Int) := by omega
          have O6x := Lib.hid O7
          clear CE CR HA HD HBR HOR HB HO O6
          go_wp2_with fail
          go_region_held3 (fun W => Old w6 W ∧ W.cell? ⟨g + 1, 0, none⟩ = some (.slice Ar s.files.length cr) ∧ W.cell? ⟨g + 1, 1, none⟩ = some (.int .u64 (s.next : Int)) ∧ W.cell? ⟨g + 1, 2, none⟩ = some (.int .u64 (s.fl : Int)) ∧ W.cell? ⟨b, off + k * 4, none⟩ = some (.slice Aa e.add.length ca) ∧ W.cell? ⟨b, off + k * 4 + 1, none⟩ = some (.slice Ad e.del.length dc) ∧ W.cell? ⟨b, off + k * 4 + 2, none⟩ = some (.int .u64 (e.next : Int)) ∧ W.cell? ⟨b, off + k * 4 + 3, none⟩ = some (.int .u64 (e.fl : Int)))
            (first | exact hS _ (Old.re _).dr | exact ed_far (hS _ (by assumption)) hz6 hg6 hb6 rfl | exact ed_far (hS _ (by assumption)) hz8 hg8 hb8 rfl | exact ed_new (hS _ (by assumption)) rfl | exact hS _ (by repeat (first | with_reducible exact Old.re _ | with_reducible assumption | with_reducible apply Old.al | with_reducible apply Old.dr | with_reducible apply Old.dn)))
            (first
              | (go_at_call 13; (with_reducible refine (HCE.out _ (by repeat (first | with_reducible exact Old.re _ | with_reducible assumption | with_reducible apply Old.al | with_reducible apply Old.dr | with_reducible apply Old.dn))).mono ?_); rintro r w8 ⟨u8, rfl, o8, n8⟩; unfold RdV; obtain ⟨A8, c8, rfl, -⟩ := n8.form; have O8 : Old w6 w8 := (by first | exact ((Old.re w6).dr).tr o8 | exact (((Old.re w6).al _).dr).tr o8); have HU8 := Lib.hid n8.its; have hz8 := O8.size; have hg8 : g + 1 < w8.heap.size := Nat.lt_of_lt_of_le hg6 hz8; have hb8 : b < w8.heap.size := Nat.lt_of_lt_of_le hb6 hz8; have HZ8 := Lib.hid o8; clear n8 o8)
              | (go_at_call 12; (with_reducible refine (HCR.out _ _ (by repeat (first | with_reducible exact Old.re _ | with_reducible assumption | with_reducible apply Old.al | with_reducible apply Old.dr | with_reducible apply Old.dn)) (HU8.out.old (by repeat (first | with_reducible exact Old.re _ | with_reducible assumption | with_reducible apply Old.al | with_reducible apply Old.dr | with_reducible apply Old.dn)))).mono ?_); rintro r w9 ⟨v9, rfl, o9, n9⟩; obtain ⟨A9, c9, rfl, -⟩ := n9.form; have O9 : Old w6 w9 := (by first | exact O8.tr o9 | exact (O8.al _).tr o9 | exact (O8.al _).dr.tr o9 | exact O8.dr.tr o9); have HN9 := Lib.hid (n9.lower (Nat.le_trans O6x.out.size (by first | exact O8.size | exact (O8.al _).size | exact (O8.al _).dr.size | exact O8.dr.size))); have HZ9 := Lib.hid o9; clear n9 o9; (first
                | (have HK9 := Lib.hid ((new_bk w6 30 #[.slice none 0 0, .int .u64 0, .int .u64 0]).old (((Old.re _).dr.tr HZ8.out).tr HZ9.out)); have q0 : w9.cell? ⟨w6.heap.size, 0, none⟩ = some (.slice none 0 0) := (HK9.out.cell 0).trans rfl; have q1 : w9.cell? ⟨w6.heap.size, 1, none⟩ = some (.int .u64 0) := (HK9.out.cell 1).trans rfl; have q2 : w9.cell? ⟨w6.heap.size, 2, none⟩ = some (.int .u64 0) := (HK9.out.cell 2).trans rfl; have f0 := HK9.out.fr 0; have f1 := HK9.out.fr 1; have f2 := HK9.out.fr 2)
                | (have HK9 := Lib.hid ((new_bk w8 30 #[.slice none 0 0, .int .u64 0, .int .u64 0]).old (by first | exact HZ9.out | exact (Old.re _).dr.tr HZ9.out)); have q0 : w9.cell? ⟨w8.heap.size, 0, none⟩ = some (.slice none 0 0) := (HK9.out.cell 0).trans rfl; have q1 : w9.cell? ⟨w8.heap.size, 1, none⟩ = some (.int .u64 0) := (HK9.out.cell 1).trans rfl; have q2 : w9.cell? ⟨w8.heap.size, 2, none⟩ = some (.int .u64 0) := (HK9.out.cell 2).trans rfl; have f0 := HK9.out.fr 0; have f1 := HK9.out.fr 1; have f2 := HK9.out.fr 2)
                | (have HK9 := Lib.hid (new_bk w9 30 #[.slice none 0 0, .int .u64 0, .int .u64 0]); have q0 : (w9.alloc (.cells #[.slice none 0 0, .int .u64 0, .int .u64 0] 30)).cell? ⟨w9.heap.size, 0, none⟩ = some (.slice none 0 0) := (HK9.out.cell 0).trans rfl; have q1 : (w9.alloc (.cells #[.slice none 0 0, .int .u64 0, .int .u64 0] 30)).cell? ⟨w9.heap.size, 1, none⟩ = some (.int .u64 0) := (HK9.out.cell 1).trans rfl; have q2 : (w9.alloc (.cells #[.slice none 0 0, .int .u64 0, .int .u64 0] 30)).cell? ⟨w9.heap.size, 2, none⟩ = some (.int .u64 0) := (HK9.out.cell 2).trans rfl; have f0 := HK9.out.fr 0; have f1 := HK9.out.fr 1; have f2 := HK9.out.fr 2))))
          all_goals
            rename_i hHeld
            clear hS hz6 hg6 hb6 hz8 hg8 hb8 HCE HCR O6x HU8 HZ8 HZ9 O8 O9 q0 q1 q2 f0 f1 f2 y0 y1 y2 y3 r0 r1 r3 HA6 HD6
            first
            | (have hH2 : Old w6 (w9.alloc (.cells #[.slice A9 r2.2.files.length c9, .int .u64 (r2.2.next : Int), .int .u64 (r2.2.fl : Int)] 30)) := hHeld.1
               have e9 := Lib.hid (new_bk w9 30 #[.slice A9 r2.2.files.length c9, .int .u64 (r2.2.next : Int), .int .u64 (r2.2.fl : Int)])
               have HN10 := Lib.hid (HN9.out.old (old_alloc w9 (.cells #[.slice A9 r2.2.files.length c9, .int .u64 (r2.2.next : Int), .int .u64 (r2.2.fl : Int)] 30)))
               have PK := And.intro hHeld (And.intro e9 HN10)
               clear hH2 HN9 HK9 hHeld e9 HN10
               generalize (w9.alloc (.cells #[.slice A9 r2.2.files.length c9, .int .u64 (r2.2.next : Int), .int .u64 (r2.2.fl : Int)] 30)) = w10 at *
               generalize w9.heap.size = h16 at *)
            | (have hH2 : Old w6 (((w9.setCell ⟨w6.heap.size, 0, none⟩ (.slice A9 r2.2.files.length c9)).setCell ⟨w6.heap.size, 1, none⟩ (.int .u64 (r2.2.next : Int))).setCell ⟨w6.heap.size, 2, none⟩ (.int .u64 (r2.2.fl : Int))) := hHeld.1
               have e0 := HK9.out.set_ 0 (.slice A9 r2.2.files.length c9)
               have e1 := e0.set_ 1 (.int .u64 (r2.2.next : Int))
               have e9 := Lib.hid (show Bk (((w9.setCell ⟨w6.heap.size, 0, none⟩ (.slice A9 r2.2.files.length c9)).setCell ⟨w6.heap.size, 1, none⟩ (.int .u64 (r2.2.next : Int))).setCell ⟨w6.heap.size, 2, none⟩ (.int .u64 (r2.2.fl : Int))) w6.heap.size 30 #[.slice A9 r2.2.files.length c9, .int .u64 (r2.2.next : Int), .int .u64 (r2.2.fl : Int)] from e1.set_ 2 (.int .u64 (r2.2.fl : Int)))
               have HN10 := Lib.hid (((HN9.out.far HK9.out (by decide) 0 (.slice A9 r2.2.files.length c9)).far e0 (by decide) 1 (.int .u64 (r2.2.next : Int))).far e1 (by decide) 2 (.int .u64 (r2.2.fl : Int)))
               have PK := And.intro hHeld (And.intro e9 HN10)
               clear hH2 HN9 HK9 e0 e1 hHeld e9 HN10
               generalize (((w9.setCell ⟨w6.heap.size, 0, none⟩ (.slice A9 r2.2.files.length c9)).setCell ⟨w6.heap.size, 1, none⟩ (.int .u64 (r2.2.next : Int))).setCell ⟨w6.heap.size, 2, none⟩ (.int .u64 (r2.2.fl : Int))) = w10 at *
               generalize w6.heap.size = h16 at *)
            | (have hH2 : Old w6 (((w9.setCell ⟨w8.heap.size, 0, none⟩ (.slice A9 r2.2.files.length c9)).setCell ⟨w8.heap.size, 1, none⟩ (.int .u64 (r2.2.next : Int))).setCell ⟨w8.heap.size, 2, none⟩ (.int .u64 (r2.2.fl : Int))) := hHeld.1
               have e0 := HK9.out.set_ 0 (.slice A9 r2.2.files.length c9)
               have e1 := e0.set_ 1 (.int .u64 (r2.2.next : Int))
               have e9 := Lib.hid (show Bk (((w9.setCell ⟨w8.heap.size, 0, none⟩ (.slice A9 r2.2.files.length c9)).setCell ⟨w8.heap.size, 1, none⟩ (.int .u64 (r2.2.next : Int))).setCell ⟨w8.heap.size, 2, none⟩ (.int .u64 (r2.2.fl : Int))) w8.heap.size 30 #[.slice A9 r2.2.files.length c9, .int .u64 (r2.2.next : Int), .int .u64 (r2.2.fl : Int)] from e1.set_ 2 (.int .u64 (r2.2.fl : Int)))
               have HN10 := Lib.hid (((HN9.out.far HK9.out (by decide) 0 (.slice A9 r2.2.files.length c9)).far e0 (by decide) 1 (.int .u64 (r2.2.next : Int))).far e1 (by decide) 2 (.int .u64 (r2.2.fl : Int)))
               have PK := And.intro hHeld (And.intro e9 HN10)
               clear hH2 HN9 HK9 e0 e1 hHeld e9 HN10
               generalize (((w9.setCell ⟨w8.heap.size, 0, none⟩ (.slice A9 r2.2.files.length c9)).setCell ⟨w8.heap.size, 1, none⟩ (.int .u64 (r2.2.next : Int))).setCell ⟨w8.heap.size, 2, none⟩ (.int .u64 (r2.2.fl : Int))) = w10 at *
               generalize w8.heap.size = h16 at *)
            clear w9 w8
            revert PK
            revert h16
            revert w10
            revert c9
            revert A9
            revert c8
            revert A8
          refine ?KK11
          rotate_left
          exact ?KK11
          exact ?KK11
          all_goals
            intro A8 c8 A9 c9 w10 h16 PK
            obtain ⟨hHeld, e9, HN10⟩ := PK
            obtain ⟨O10, -⟩ := hHeld
            have O11 := O7.tr O10
            have HE7 := Lib.hid (e3.out.old O10)
            have HN7 := Lib.hid (HN6.out.old O10)
            have HB10 := Lib.hid (HB6.out.old O10)
            have HO10 := Lib.hid (HO6.out.old O10)
            have HBR10 := Lib.hid (HBR6.out.old O10)
            have HOR10 := Lib.hid (HOR6.out.old O10)
            have hln : r2.2.files.length ≤ 440 := by
              have h1 := ap_len HR.out HSM.out
              rw [← HR2.out] at h1
              omega
            have z0 : w10.cell? ⟨h7, 0, none⟩ = some (.slice A3 r2.2.files.length c3) := HE7.out.cell 0
            have z1 : w10.cell? ⟨h7, 1, none⟩ = some (.int .u64 (r2.2.next : Int)) := HE7.out.cell 1
            have z2 : w10.cell? ⟨h7, 2, none⟩ = some (.int .u64 (r2.2.fl : Int)) := HE7.out.cell 2
            have y0 : w10.cell? ⟨h16, 0, none⟩ = some (.slice A9 r2.2.files.length c9) := e9.out.cell 0
            have y1 : w10.cell? ⟨h16, 1, none⟩ = some (.int .u64 (r2.2.next : Int)) := e9.out.cell 1
            have y2 : w10.cell? ⟨h16, 2, none⟩ = some (.int .u64 (r2.2.fl : Int)) := e9.out.cell 2
            have hS : ∀ W, Old w10 W → _ := fun W (q : Old w10 W) => six_keep (g := h7) (h := h16) ⟨Old.re w10, z0, z1, z2, y0, y1, y2⟩ q
            clear e3 HN6 HB6 HO6 HBR6 HOR6 O7 O10
            have HI7 := Lib.hid HN7.out.its
            have HI10 := Lib.hid HN10.out.its
            go_wp2_with fail
            go_region_held3 (fun W => Old w10 W ∧ W.cell? ⟨h7, 0, none⟩ = some (.slice A3 r2.2.files.length c3) ∧ W.cell? ⟨h7, 1, none⟩ = some (.int .u64 (r2.2.next : Int)) ∧ W.cell? ⟨h7, 2, none⟩ = some (.int .u64 (r2.2.fl : Int)) ∧ W.cell? ⟨h16, 0, none⟩ = some (.slice A9 r2.2.files.length c9) ∧ W.cell? ⟨h16, 1, none⟩ = some (.int .u64 (r2.2.next : Int)) ∧ W.cell? ⟨h16, 2, none⟩ = some (.int .u64 (r2.2.fl : Int)))
              (first | exact hS _ (Old.re _).dr | exact hS _ (by repeat (first | with_reducible exact Old.re _ | with_reducible assumption | with_reducible apply Old.al | with_reducible apply Old.dr | with_reducible apply Old.dn)))
              (first
                | (go_at_call 15; (with_reducible refine (files_any _ _ r2.2.files (HI7.out.old (by repeat (first | with_reducible exact Old.re _ | with_reducible assumption | with_reducible apply Old.al | with_reducible apply Old.dr | with_reducible apply Old.dn))) (by omega)).mono ?_); rintro r w11 ⟨u11, rfl, o11, n11⟩; have O11b : Old w10 w11 := (by first | exact o11 | exact ((Old.re w10).dr).tr o11); have HU11 := Lib.hid n11.its; clear n11 o11)
                | (go_at_call 14; (with_reducible refine (sameFiles_any _ _ _ r2.2.files (HU11.out.old (by repeat (first | with_reducible exact Old.re _ | with_reducible assumption | with_reducible apply Old.al | with_reducible apply Old.dr | with_reducible apply Old.dn))) (HI10.out.old (by repeat (first | with_reducible exact Old.re _ | with_reducible assumption | with_reducible apply Old.al | with_reducible apply Old.dr | with_reducible apply Old.dn))) (by omega)).mono ?_); rintro r w12 ⟨rfl, o12⟩; have O12b : Old w10 w12 := (by first | exact O11b.tr o12 | exact O11b.dr.tr o12); clear o12))
            rename_i hHeld
            have O12 : Old w10 w12 := hHeld.1
            clear hS hHeld z0 z1 z2 y0 y1 y2 O11b O12b HU11 HI7 HI10
            have O13 := O11.tr O12
            have HE7 := Lib.hid (HE7.out.old O12)
            have e9 := Lib.hid (e9.out.old O12)
            have HN7 := Lib.hid (HN7.out.old O12)
            have HN10 := Lib.hid (HN10.out.old O12)
            have HB10 := Lib.hid (HB10.out.old O12)
            have HO10 := Lib.hid (HO10.out.old O12)
            have HBR10 := Lib.hid (HBR10.out.old O12)
            have HOR10 := Lib.hid (HOR10.out.old O12)
            clear O11 O12 t0 t1 t2
            by_cases h0 : r2.1 = 0
            · have d0 : (r2.1 == 0) = true := by simpa using h0
              have hRu : Runs (k + 1) r2.2 := by
                rw [HR2.out] at h0 ⊢
                exact HR.out.ap HSM.out h0
              have HRu := Lib.hid hRu
              clear hRu h0
              have z0 : w12.cell? ⟨h7, 0, none⟩ = some (.slice A3 r2.2.files.length c3) := HE7.out.cell 0
              have z1 : w12.cell? ⟨h7, 1, none⟩ = some (.int .u64 (r2.2.next : Int)) := HE7.out.cell 1
              have z2 : w12.cell? ⟨h7, 2, none⟩ = some (.int .u64 (r2.2.fl : Int)) := HE7.out.cell 2
              have t0 : w12.cell? ⟨g, 0, none⟩ = some (.slice A5 s.files.length c5) := HB10.out.cell 0
              have t1 : w12.cell? ⟨g, 1, none⟩ = some (.int .u64 (s.next : Int)) := HB10.out.cell 1
              have t2 : w12.cell? ⟨g, 2, none⟩ = some (.int .u64 (s.fl : Int)) := HB10.out.cell 2
              have fr : ∀ o, w12.frozen? ⟨g, o, none⟩ = false := fun o => HB10.out.fr o
              go_upto_region 16 with (fail)
              have hne : h16 ≠ g := Bk.ne e9.out HB10.out (by decide)
              have hne2 : g + 1 ≠ g := by omega
              have p1 := HB10.out.set_ 0 (.slice A3 r2.2.files.length c3)
              have p2 := p1.set_ 1 (.int .u64 (r2.2.next : Int))
              have p3 := Lib.hid (p2.set_ 2 (.int .u64 (r2.2.fl : Int)))
              have N7 := Lib.hid (((HN7.out.far HB10.out (by decide) 0 (.slice A3 r2.2.files.length c3)).far p1 (by decide) 1 (.int .u64 (r2.2.next : Int))).far p2 (by decide) 2 (.int .u64 (r2.2.fl : Int)))
              have N10 := Lib.hid (((HN10.out.far HB10.out (by decide) 0 (.slice A3 r2.2.files.length c3)).far p1 (by decide) 1 (.int .u64 (r2.2.next : Int))).far p2 (by decide) 2 (.int .u64 (r2.2.fl : Int)))
              have E16 := Lib.hid (((e9.out.far (p := ⟨g, 0, none⟩) hne (.slice A3 r2.2.files.length c3)).far (p := ⟨g, 1, none⟩) hne (.int .u64 (r2.2.next : Int))).far (p := ⟨g, 2, none⟩) hne (.int .u64 (r2.2.fl : Int)))
              have BR := Lib.hid (((HBR10.out.far (p := ⟨g, 0, none⟩) hne2 (.slice A3 r2.2.files.length c3)).far (p := ⟨g, 1, none⟩) hne2 (.int .u64 (r2.2.next : Int))).far (p := ⟨g, 2, none⟩) hne2 (.int .u64 (r2.2.fl : Int)))
              have O14 := ((O13.st (p := ⟨g, 0, none⟩) hg (.slice A3 r2.2.files.length c3)).st (p := ⟨g, 1, none⟩) hg (.int .u64 (r2.2.next : Int))).st (p := ⟨g, 2, none⟩) hg (.int .u64 (r2.2.fl : Int))
              clear p1 p2 HN7 HN10 e9 HBR10 HB10 HO10 HOR10 HE7 z0 z1 z2 t0 t1 t2 fr hne hne2 O13
              generalize (((w12.setCell ⟨g, 0, none⟩ (.slice A3 r2.2.files.length c3)).setCell ⟨g, 1, none⟩ (.int .u64 (r2.2.next : Int))).setCell ⟨g, 2, none⟩ (.int .u64 (r2.2.fl : Int))) = w13 at *
              have y0 : w13.cell? ⟨h16, 0, none⟩ = some (.slice A9 r2.2.files.length c9) := E16.out.cell 0
              have y1 : w13.cell? ⟨h16, 1, none⟩ = some (.int .u64 (r2.2.next : Int)) := E16.out.cell 1
              have y2 : w13.cell? ⟨h16, 2, none⟩ = some (.int .u64 (r2.2.fl : Int)) := E16.out.cell 2
              have t0 : w13.cell? ⟨g + 1, 0, none⟩ = some (.slice Ar s.files.length cr) := BR.out.cell 0
              have t1 : w13.cell? ⟨g + 1, 1, none⟩ = some (.int .u64 (s.next : Int)) := BR.out.cell 1
              have t2 : w13.cell? ⟨g + 1, 2, none⟩ = some (.int .u64 (s.fl : Int)) := BR.out.cell 2
              have fr : ∀ o, w13.frozen? ⟨g + 1, o, none⟩ = false := fun o => BR.out.fr o
              have hg1 : w.heap.size ≤ g + 1 := by omega
              have hne3 : g ≠ g + 1 := by omega
              have s1 := BR.out.set_ 0 (.slice A9 r2.2.files.length c9)
              have s2 := s1.set_ 1 (.int .u64 (r2.2.next : Int))
              have s3 := s2.set_ 2 (.int .u64 (r2.2.fl : Int))
              have HS8 := Lib.hid (And.intro (show Sbox (((w13.setCell ⟨g + 1, 0, none⟩ (.slice A9 r2.2.files.length c9)).setCell ⟨g + 1, 1, none⟩ (.int .u64 (r2.2.next : Int))).setCell ⟨g + 1, 2, none⟩ (.int .u64 (r2.2.fl : Int))) g w.heap.size r2.2 from ⟨_, ((p3.out.far (p := ⟨g + 1, 0, none⟩) hne3 (.slice A9 r2.2.files.length c9)).far (p := ⟨g + 1, 1, none⟩) hne3 (.int .u64 (r2.2.next : Int))).far (p := ⟨g + 1, 2, none⟩) hne3 (.int .u64 (r2.2.fl : Int)), ((N7.out.far BR.out (by decide) 0 (.slice A9 r2.2.files.length c9)).far s1 (by decide) 1 (.int .u64 (r2.2.next : Int))).far s2 (by decide) 2 (.int .u64 (r2.2.fl : Int))⟩)
                (And.intro (show Rbox (((w13.setCell ⟨g + 1, 0, none⟩ (.slice A9 r2.2.files.length c9)).setCell ⟨g + 1, 1, none⟩ (.int .u64 (r2.2.next : Int))).setCell ⟨g + 1, 2, none⟩ (.int .u64 (r2.2.fl : Int))) (g + 1) w.heap.size r2.2 from ⟨_, s3, ((N10.out.far BR.out (by decide) 0 (.slice A9 r2.2.files.length c9)).far s1 (by decide) 1 (.int .u64 (r2.2.next : Int))).far s2 (by decide) 2 (.int .u64 (r2.2.fl : Int))⟩) HRu.out))
              have O15 := ((O14.st (p := ⟨g + 1, 0, none⟩) hg1 (.slice A9 r2.2.files.length c9)).st (p := ⟨g + 1, 1, none⟩) hg1 (.int .u64 (r2.2.next : Int))).st (p := ⟨g + 1, 2, none⟩) hg1 (.int .u64 (r2.2.fl : Int))
              clear s1 s2 s3 p3 N7 N10 E16 BR O14 HRu hne3
              go_wp2
              go_roundw
              case rel => exact ⟨k + 1, r2.2, by go_num, by omega, O15, HS8⟩
              case measure => simp [intOf]; omega
            · have d0 : (r2.1 == 0) = false := by simpa using h0
              have HS8 := Lib.hid (And.intro (show Sbox w12 g w.heap.size s from ⟨_, HB10.out, HO10.out⟩) (And.intro (show Rbox w12 (g + 1) w.heap.size s from ⟨_, HBR10.out, HOR10.out⟩) HR.out.up))
              clear h0 HN7 HN10 e9 HBR10 HB10 HO10 HOR10 HE7 HR HX
              go_wp2
              go_roundw
              case rel => exact ⟨k + 1, s, by go_num, by omega, O13, HS8⟩
              case measure => simp [intOf]; omega
    · obtain rfl : k = l.length := by omega
      have hlen : s.files.length ≤ 400 := by have := HR.out.len; omega
      have CF : ∀ W, Old wr W → Calls Try.prog 16 #[.agg #[.slice A5 s.files.length c5, .int .u64 (s.next : Int), .int .u64 (s.fl : Int)], .string (B row)] W fun e w' => ∃ u, e = .returned u ∧ OwnE 60 w' W.heap.size u (s.files.filter (inF row)) ∧ Old W w' := fun W q => find_code W _ s row (HO.out.its.old q) (by omega)
      have CRF : ∀ W, Old wr W → Calls Try.prog 17 #[.agg #[.slice Ar s.files.length cr, .int .u64 (s.next : Int), .int .u64 (s.fl : Int)], .string (B row)] W fun e w' => ∃ u, e = .returned u ∧ OwnE 75 w' W.heap.size u (s.files.filter (inF row)) ∧ Old W w' := fun W q => find_ref W _ s row (HOR.out.its.old q) (by omega)
      have CO : ∀ W, Old wr W → Calls Try.prog 18 #[.agg #[.slice A5 s.files.length c5, .int .u64 (s.next : Int), .int .u64 (s.fl : Int)], .int .i64 lv, .string (B low), .string (B high)] W fun e w' => ∃ u, e = .returned u ∧ OwnE 60 w' W.heap.size u (s.files.filter (overF lv low high)) ∧ Old W w' := fun W q => over_code W _ s lv low high (HO.out.its.old q) (by omega)
      have CRO : ∀ W, Old wr W → Calls Try.prog 19 #[.agg #[.slice Ar s.files.length cr, .int .u64 (s.next : Int), .int .u64 (s.fl : Int)], .int .i64 lv, .string (B low), .string (B high)] W fun e w' => ∃ u, e = .returned u ∧ OwnE 75 w' W.heap.size u (s.files.filter (overF lv low high)) ∧ Old W w' := fun W q => over_ref W _ s lv low high (HOR.out.its.old q) (by omega)
      have hf1 := Nat.le_trans (List.length_filter_le (inF row) s.files) hlen
      have hf2 := Nat.le_trans (List.length_filter_le (overF lv low high) s.files) hlen
      have HCF := Lib.hid CF
      have HCRF := Lib.hid CRF
      have HCO := Lib.hid CO
      have HCRO := Lib.hid CRO
      generalize s.files.filter (inF row) = F at *
      generalize s.files.filter (overF lv low high) = M at *
      have r0 : wr.cell? ⟨g + 1, 0, none⟩ = some (.slice Ar s.files.length cr) := HBR.out.cell 0
      have r1 : wr.cell? ⟨g + 1, 1, none⟩ = some (.int .u64 (s.next : Int)) := HBR.out.cell 1
      have r3 : wr.cell? ⟨g + 1, 2, none⟩ = some (.int .u64 (s.fl : Int)) := HBR.out.cell 2
      have hS : ∀ W, Old wr W → _ := fun W (q : Old wr W) => six_keep (g := g) (h := g + 1) ⟨Old.re wr, t0, t1, t2, r0, r1, r3⟩ q
      have Owr := Old.re wr
      have O3x := Lib.hid O3
      clear CF CRF CO CRO HB HO HBR HOR HR O3
      go_wp2_with fail
      go_region_held3 (fun W => Old wr W ∧ W.cell? ⟨g, 0, none⟩ = some (.slice A5 s.files.length c5) ∧ W.cell? ⟨g, 1, none⟩ = some (.int .u64 (s.next : Int)) ∧ W.cell? ⟨g, 2, none⟩ = some (.int .u64 (s.fl : Int)) ∧ W.cell? ⟨g + 1, 0, none⟩ = some (.slice Ar s.files.length cr) ∧ W.cell? ⟨g + 1, 1, none⟩ = some (.int .u64 (s.next : Int)) ∧ W.cell? ⟨g + 1, 2, none⟩ = some (.int .u64 (s.fl : Int)))
        (first | exact hS _ (Old.re _).dr | exact hS _ (by repeat (first | with_reducible exact Old.re _ | with_reducible assumption | with_reducible apply Old.al | with_reducible apply Old.dr | with_reducible apply Old.dn)))
        (first
          | (go_at_call 16; (with_reducible refine (HCF.out _ (by repeat (first | with_reducible exact Old.re _ | with_reducible assumption | with_reducible apply Old.al | with_reducible apply Old.dr | with_reducible apply Old.dn))).mono ?_); rintro r wa ⟨ua, rfl, na, oa⟩; (try have HUa := Lib.hid (HUa.out.old (by first | exact oa | exact ((Old.re _).dr).tr oa))); (try have HUf := Lib.hid (HUf.out.old (by first | exact oa | exact ((Old.re _).dr).tr oa))); (try have HUr := Lib.hid (HUr.out.old (by first | exact oa | exact ((Old.re _).dr).tr oa))); (try have HVa := Lib.hid (HVa.out.old (by first | exact oa | exact ((Old.re _).dr).tr oa))); (try have HVf := Lib.hid (HVf.out.old (by first | exact oa | exact ((Old.re _).dr).tr oa))); (try have HVr := Lib.hid (HVr.out.old (by first | exact oa | exact ((Old.re _).dr).tr oa))); have Owr : Old wr wa := (by first | exact Owr.tr oa | exact Owr.dr.tr oa); have HUa := Lib.hid na.its; clear na oa)
          | (go_at_call 17; (with_reducible refine (HCRF.out _ (by repeat (first | with_reducible exact Old.re _ | with_reducible assumption | with_reducible apply Old.al | with_reducible apply Old.dr | with_reducible apply Old.dn))).mono ?_); rintro r wb ⟨ub, rfl, nb, ob⟩; (try have HUa := Lib.hid (HUa.out.old (by first | exact ob | exact ((Old.re _).dr).tr ob))); (try have HUf := Lib.hid (HUf.out.old (by first | exact ob | exact ((Old.re _).dr).tr ob))); (try have HUr := Lib.hid (HUr.out.old (by first | exact ob | exact ((Old.re _).dr).tr ob))); (try have HVa := Lib.hid (HVa.out.old (by first | exact ob | exact ((Old.re _).dr).tr ob))); (try have HVf := Lib.hid (HVf.out.old (by first | exact ob | exact ((Old.re _).dr).tr ob))); (try have HVr := Lib.hid (HVr.out.old (by first | exact ob | exact ((Old.re _).dr).tr ob))); have Owr : Old wr wb := (by first | exact Owr.tr ob | exact Owr.dr.tr ob); have HUr := Lib.hid nb.its; clear nb ob)
          | (go_at_call 18; (with_reducible refine (HCO.out _ (by repeat (first | with_reducible exact Old.re _ | with_reducible assumption | with_reducible apply Old.al | with_reducible apply Old.dr | with_reducible apply Old.dn))).mono ?_); rintro r wc ⟨uc, rfl, nc, oc⟩; (try have HUa := Lib.hid (HUa.out.old (by first | exact oc | exact ((Old.re _).dr).tr oc))); (try have HUf := Lib.hid (HUf.out.old (by first | exact oc | exact ((Old.re _).dr).tr oc))); (try have HUr := Lib.hid (HUr.out.old (by first | exact oc | exact ((Old.re _).dr).tr oc))); (try have HVa := Lib.hid (HVa.out.old (by first | exact oc | exact ((Old.re _).dr).tr oc))); (try have HVf := Lib.hid (HVf.out.old (by first | exact oc | exact ((Old.re _).dr).tr oc))); (try have HVr := Lib.hid (HVr.out.old (by first | exact oc | exact ((Old.re _).dr).tr oc))); have Owr : Old wr wc := (by first | exact Owr.tr oc | exact Owr.dr.tr oc); have HVa := Lib.hid nc.its; clear nc oc)
          | (go_at_call 19; (with_reducible refine (HCRO.out _ (by repeat (first | with_reducible exact Old.re _ | with_reducible assumption | with_reducible apply Old.al | with_reducible apply Old.dr | with_reducible apply Old.dn))).mono ?_); rintro r wd ⟨ud, rfl, nd, od⟩; (try have HUa := Lib.hid (HUa.out.old (by first | exact od | exact ((Old.re _).dr).tr od))); (try have HUf := Lib.hid (HUf.out.old (by first | exact od | exact ((Old.re _).dr).tr od))); (try have HUr := Lib.hid (HUr.out.old (by first | exact od | exact ((Old.re _).dr).tr od))); (try have HVa := Lib.hid (HVa.out.old (by first | exact od | exact ((Old.re _).dr).tr od))); (try have HVf := Lib.hid (HVf.out.old (by first | exact od | exact ((Old.re _).dr).tr od))); (try have HVr := Lib.hid (HVr.out.old (by first | exact od | exact ((Old.re _).dr).tr od))); have Owr : Old wr wd := (by first | exact Owr.tr od | exact Owr.dr.tr od); have HVr := Lib.hid nd.its; clear nd od)
          | (go_at_call 15; (with_reducible refine (files_any _ _ F (HUa.out.old (by repeat (first | with_reducible exact Old.re _ | with_reducible assumption | with_reducible apply Old.al | with_reducible apply Old.dr | with_reducible apply Old.dn))) (by omega)).mono ?_); rintro r we ⟨ue, rfl, oe, ne⟩; (try have HUa := Lib.hid (HUa.out.old (by first | exact oe | exact ((Old.re _).dr).tr oe))); (try have HUf := Lib.hid (HUf.out.old (by first | exact oe | exact ((Old.re _).dr).tr oe))); (try have HUr := Lib.hid (HUr.out.old (by first | exact oe | exact ((Old.re _).dr).tr oe))); (try have HVa := Lib.hid (HVa.out.old (by first | exact oe | exact ((Old.re _).dr).tr oe))); (try have HVf := Lib.hid (HVf.out.old (by first | exact oe | exact ((Old.re _).dr).tr oe))); (try have HVr := Lib.hid (HVr.out.old (by first | exact oe | exact ((Old.re _).dr).tr oe))); have Owr : Old wr we := (by first | exact Owr.tr oe | exact Owr.dr.tr oe); have HUf := Lib.hid ne.its; clear ne oe)
          | (go_at_call 15; (with_reducible refine (files_any _ _ M (HVa.out.old (by repeat (first | with_reducible exact Old.re _ | with_reducible assumption | with_reducible apply Old.al | with_reducible apply Old.dr | with_reducible apply Old.dn))) (by omega)).mono ?_); rintro r wf ⟨uf, rfl, of, nf⟩; (try have HUa := Lib.hid (HUa.out.old (by first | exact of | exact ((Old.re _).dr).tr of))); (try have HUf := Lib.hid (HUf.out.old (by first | exact of | exact ((Old.re _).dr).tr of))); (try have HUr := Lib.hid (HUr.out.old (by first | exact of | exact ((Old.re _).dr).tr of))); (try have HVa := Lib.hid (HVa.out.old (by first | exact of | exact ((Old.re _).dr).tr of))); (try have HVf := Lib.hid (HVf.out.old (by first | exact of | exact ((Old.re _).dr).tr of))); (try have HVr := Lib.hid (HVr.out.old (by first | exact of | exact ((Old.re _).dr).tr of))); have Owr : Old wr wf := (by first | exact Owr.tr of | exact Owr.dr.tr of); have HVf := Lib.hid nf.its; clear nf of)
          | (go_at_call 14; (with_reducible refine (sameFiles_any _ _ _ F (HUf.out.old (by repeat (first | with_reducible exact Old.re _ | with_reducible assumption | with_reducible apply Old.al | with_reducible apply Old.dr | with_reducible apply Old.dn))) (HUr.out.old (by repeat (first | with_reducible exact Old.re _ | with_reducible assumption | with_reducible apply Old.al | with_reducible apply Old.dr | with_reducible apply Old.dn))) (by omega)).mono ?_); rintro r wg ⟨rfl, og⟩; (try have HUa := Lib.hid (HUa.out.old (by first | exact og | exact ((Old.re _).dr).tr og))); (try have HUf := Lib.hid (HUf.out.old (by first | exact og | exact ((Old.re _).dr).tr og))); (try have HUr := Lib.hid (HUr.out.old (by first | exact og | exact ((Old.re _).dr).tr og))); (try have HVa := Lib.hid (HVa.out.old (by first | exact og | exact ((Old.re _).dr).tr og))); (try have HVf := Lib.hid (HVf.out.old (by first | exact og | exact ((Old.re _).dr).tr og))); (try have HVr := Lib.hid (HVr.out.old (by first | exact og | exact ((Old.re _).dr).tr og))); have Owr : Old wr wg := (by first | exact Owr.tr og | exact Owr.dr.tr og); clear og)
          | (go_at_call 14; (with_reducible refine (sameFiles_any _ _ _ M (HVf.out.old (by repeat (first | with_reducible exact Old.re _ | with_reducible assumption | with_reducible apply Old.al | with_reducible apply Old.dr | with_reducible apply Old.dn))) (HVr.out.old (by repeat (first | with_reducible exact Old.re _ | with_reducible assumption | with_reducible apply Old.al | with_reducible apply Old.dr | with_reducible apply Old.dn))) (by omega)).mono ?_); rintro r wh ⟨rfl, oh⟩; (try have HUa := Lib.hid (HUa.out.old (by first | exact oh | exact ((Old.re _).dr).tr oh))); (try have HUf := Lib.hid (HUf.out.old (by first | exact oh | exact ((Old.re _).dr).tr oh))); (try have HUr := Lib.hid (HUr.out.old (by first | exact oh | exact ((Old.re _).dr).tr oh))); (try have HVa := Lib.hid (HVa.out.old (by first | exact oh | exact ((Old.re _).dr).tr oh))); (try have HVf := Lib.hid (HVf.out.old (by first | exact oh | exact ((Old.re _).dr).tr oh))); (try have HVr := Lib.hid (HVr.out.old (by first | exact oh | exact ((Old.re _).dr).tr oh))); have Owr : Old wr wh := (by first | exact Owr.tr oh | exact Owr.dr.tr oh); clear oh))
      all_goals
        rename_i hHeld
        have O20 := O3x.out.tr hHeld.1
        clear hHeld hS
        go_wp2
        go_ret
        exact ⟨rfl, O20⟩

set_option maxRecDepth 100000 in
theorem manifestApplies_lifted (os : Os) (started : os.Started) (H : Type) (enc : TypeId × Value → H) :
    ReturnsInHanded {} Try.checked os 3 .any (Rows.manifestAppliesSpec.pre6 enc Try.prog Try.f3 Rows.manifestAppliesRow.domain false) (Rows.manifestAppliesSpec.post enc Try.prog Try.f3 false true false false) := by
  refine returnsInHanded_of_change_sized (C := Try.checked) Try.own started (by kernel_rfl) Try.func3
    (ChangeSpec.witness6 (enc := enc) (C := Try.checked) false ⟨#[], #[.slice none 0 0, .string ByteArray.empty, .string ByteArray.empty, .string ByteArray.empty, .int .i64 0], []⟩ 8 (by kernel_rfl) (by kernel_rfl) (by kernel_rfl) (by kernel_rfl)) ?_
  intro W base args ds gs before hval0 hW hcnd hsz0 _
  have hval : ∀ (j : Nat) t v, Try.f3.params[j]? = some t → args[j]? = some v → Value.okWide Try.prog W .any base t v := hval0
  have hW' := hW
  obtain ⟨p, q, hA0, hV, rfl, hfz, hnd⟩ := hW
  have hA : DataW.TrodAll enc Try.prog W 0 (fun _ => true) true Try.f3.params.toList args.toList ds p := hA0
  have hsz : (DataW.weightsEach Try.prog (Try.f3.params.toList ++ Rows.manifestAppliesSpec.plain.varTypes Try.prog) (ds ++ gs)).all (· ≤ reachBytes) = true := hsz0
  rw [Try.params3] at hA hval hsz
  obtain ⟨v0, v1, v2, v3, v4, d0, d1, d2, d3, d4, p0, p1, p2, p3, p4, rfl, rfl, rfl, h0, h1, h2, h3, h4⟩ := trodAll_five hA
  obtain ⟨rfl, rfl⟩ := trodVars_none hV
  have hlt : ∀ x ∈ p0 ++ (p1 ++ (p2 ++ (p3 ++ (p4)))), x.block < W.heap.size := fun x hx => hW'.lt x (by simpa using hx)
  have k0 := h0
  have k1 := h1
  have k2 := h2
  have k3 := h3
  have k4 := h4
  obtain ⟨a0, o0, m0⟩ := open_eds (hval 0 22 v0 rfl rfl) h0
  obtain ⟨a1, rfl, o1⟩ := open_str (hval 1 9 v1 rfl rfl) h1
  obtain ⟨a2, rfl, o2⟩ := open_str (hval 2 9 v2 rfl rfl) h2
  obtain ⟨a3, rfl, o3⟩ := open_str (hval 3 9 v3 rfl rfl) h3
  obtain ⟨a4, rfl, o4⟩ := open_i64 (hval 4 3 v4 rfl rfl) h4
  clear hA0 hval0 hsz0
  refine (law_walk a0 v0 a1 a2 a3 a4 o1 o2 o3 W o0 m0).mono fun e W' ⟨he, hb⟩ => ?_
  subst he
  refine ⟨_, rfl, _, _, _, [], p0 ++ (p1 ++ (p2 ++ (p3 ++ (p4)))), [], hW', trodAll_mk1 (shut_bool Try.underlying4 _), ?_, rfl, hb.frame _, fun h => by cases h⟩
  have r0 := Below.trod Try.laidOut (by kernel_rfl) (of_decide_eq_true (by kernel_rfl)) k0 hb (fun x hx => hlt x (by simp [hx]))
  have r1 := Below.trod Try.laidOut (by kernel_rfl) (of_decide_eq_true (by kernel_rfl)) k1 hb (fun x hx => hlt x (by simp [hx]))
  have r2 := Below.trod Try.laidOut (by kernel_rfl) (of_decide_eq_true (by kernel_rfl)) k2 hb (fun x hx => hlt x (by simp [hx]))
  have r3 := Below.trod Try.laidOut (by kernel_rfl) (of_decide_eq_true (by kernel_rfl)) k3 hb (fun x hx => hlt x (by simp [hx]))
  have r4 := Below.trod Try.laidOut (by kernel_rfl) (of_decide_eq_true (by kernel_rfl)) k4 hb (fun x hx => hlt x (by simp [hx]))
  exact trodAll_mk5 r0 r1 r2 r3 r4

theorem manifestApplies_holds : Rows.ManifestAppliesSaid :=
  OpenClaim.holds_of_wide 3 Try.f3 rfl rfl rfl rfl rfl rfl rfl ⟨rfl, rfl, rfl, rfl, rfl⟩ rfl rfl rfl rfl rfl (by kernel_rfl) Try.func3 (by kernel_rfl)
    (of_decide_eq_true (by kernel_rfl)) (by unfold Func.isWrapper; first | (rw [if_pos (by decide +kernel)]; kernel_rfl) | (rw [if_neg (by decide +kernel)]; exact ⟨rfl, rfl⟩))
    (fun os started H enc _ => manifestApplies_lifted os started H enc)
#print axioms manifestApplies_holds
end Go.Proofs.Yteglddggjkibcaa
