/-
  ManifestFinds: the files of a row are those of each level that have it, level by level: the law answers true, whatever comes in, and leaves all as it was. No conditions.
-/
import Derived.Test.YteglddggjkibcaaFRun
namespace Go.Proofs.Yteglddggjkibcaa
open Go.ChangeShapes Go.WideShapes Go.ChangeAt Go.RowKit Go.Joins Go.Deep

set_option maxRecDepth 100000 in
set_option maxHeartbeats 16000000 in
theorem law_walk (l : List Ed) (v : Value) (row : List UInt8) (hr : row.length ≤ maxLen) (w : World) (hl : Eds w v l) (hm : l.length ≤ maxLen) :
    Calls Try.prog 8 #[v, .string (B row)] w fun r w' => r = .returned (.bool true) ∧ Old w w' := by
  obtain ⟨A, cap, rfl, -⟩ := hl.form
  have HL := Lib.hid hl
  have hm2 : l.length ≤ 9223372036854775807 := by unfold maxLen at hm; omega
  have hr2 : row.length ≤ 9223372036854775807 := by unfold maxLen at hr; omega
  clear hl hm hr
  go_enter Try.func8, Try.ntmps8
  by_cases hc1 : l.length ≤ 10
  case neg =>
    go_wp2_with (go_at_call 9; refine (shown_any _).mono ?_; rintro r w1 ⟨rfl, o1⟩)
    go_ret
    exact ⟨rfl, o1⟩
  by_cases hc2 : row.length ≤ 100
  case neg =>
    go_wp2_with (go_at_call 9; refine (shown_any _).mono ?_; rintro r w1 ⟨rfl, o1⟩)
    go_ret
    exact ⟨rfl, o1⟩
  have d1 : decide ((10 : Int) < (l.length : Int)) = false := by simp; omega
  have d2 : decide ((100 : Int) < (row.length : Int)) = false := by simp; omega
  go_wp2_with fail
  refine (shown_any w).mono ?_
  rintro r w1 ⟨rfl, o1⟩
  go_wp2_with fail
  have hb := new_bk w1 27 #[.slice none 0 0, .int .u64 0, .int .u64 0]
  have O2 := o1.al (.cells #[.slice none 0 0, .int .u64 0, .int .u64 0] 27)
  have HS2 : Hid (Sbox (w1.alloc (.cells #[.slice none 0 0, .int .u64 0, .int .u64 0] 27)) w1.heap.size w.heap.size St0) := Lib.hid ⟨_, hb, OwnE.nil _ _ _⟩
  have hg := o1.size
  generalize w1.alloc (.cells #[.slice none 0 0, .int .u64 0, .int .u64 0] 27) = w2 at *
  obtain ⟨g, hgg⟩ : ∃ g, g = w1.heap.size := ⟨_, rfl⟩
  rw [← hgg] at HS2 hg ⊢
  clear hb o1 hgg
  go_loopw [6] (fun iv wr => ∃ (k : Nat) (s : St), iv = .int .i64 k ∧ k ≤ l.length ∧ Old w wr ∧ Hid (Sbox wr g w.heap.size s ∧ s = runE (l.take k) ∧ Runs k s)) (fun iv _ => l.length - (intOf iv).toNat)
  case atStart => exact ⟨0, St0, rfl, Nat.zero_le _, O2, Lib.hid ⟨HS2.out, rfl, Runs.zero⟩⟩
  case round =>
    clear HS2 O2
    obtain ⟨k, s, rfl, hk, O3, HS⟩ := hrel
    obtain ⟨vs, hb, ho⟩ := HS.out.1
    obtain ⟨A5, c5, rfl, -⟩ := ho.form
    have HB := Lib.hid hb
    have HO := Lib.hid ho
    have HR := Lib.hid HS.out.2
    clear hb ho HS
    have t0 : wr.cell? ⟨g, 0, none⟩ = some (.slice A5 s.files.length c5) := HB.out.cell 0
    have t1 : wr.cell? ⟨g, 1, none⟩ = some (.int .u64 (s.next : Int)) := HB.out.cell 1
    have t2 : wr.cell? ⟨g, 2, none⟩ = some (.int .u64 (s.fl : Int)) := HB.out.cell 2
    by_cases hlt : k < l.length
    · obtain ⟨e, HX⟩ : ∃ e, Hid (l[k]? = some e) := ⟨l[k], Lib.hid (List.getElem?_eq_getElem hlt)⟩
      obtain ⟨b, off, rfl, va, Ad, dc, ⟨y0, y1, y2, y3⟩, ha, hd, hl1, hl2, -, -⟩ := (HL.out.old O3).at_ HX.out
      obtain ⟨Aa, ca, rfl, -⟩ := ha.form
      have HA := Lib.hid ha
      have HD := Lib.hid hd
      have CS := Lib.hid (small_any wr _ Ad dc e ha hd hl1 (Nat.le_trans hd.1 hl2))
      clear ha hd hl1 hl2
      cases hsm : smallE e with
      | false =>
        rw [hsm] at CS
        clear hsm
        go_wp2_with fail
        refine CS.out.mono ?_
        rintro r w4 ⟨rfl, o4⟩
        have O4 := O3.tr o4
        clear CS o4 t0 t1 t2 y0 y1 y2 y3
        go_wp2_with (go_at_call 9; refine (shown_any _).mono ?_; rintro r w5 ⟨rfl, o5⟩)
        go_ret
        exact ⟨rfl, O4.tr o5⟩
      | true =>
        rw [hsm] at CS
        have HSM := Lib.hid hsm
        have HSG := Lib.hid (small_get hsm)
        clear hsm
        go_wp2_with fail
        refine CS.out.mono ?_
        rintro r w4 ⟨rfl, o4⟩
        have O4 := O3.tr o4
        have hS : ∀ W, Old w4 W → _ := fun W (q : Old w4 W) => ed_keep (g := g) (b := b) (o2 := off + k * 4) ⟨o4, cell_old t0 o4, cell_old t1 o4, cell_old t2 o4, cell_old y0 o4, cell_old y1 o4, cell_old y2 o4, cell_old y3 o4⟩ q
        have HB4 := Lib.hid (HB.out.old o4)
        have HO4 := Lib.hid (HO.out.old o4)
        have HA4 := Lib.hid (HA.out.old o4)
        have HD4 := Lib.hid (HD.out.old o4)
        obtain ⟨r2, hr2⟩ : ∃ r2, r2 = apF s e := ⟨_, rfl⟩
        have CA : ∀ W, Old w4 W → Calls Try.prog 11 #[.agg #[.slice A5 s.files.length c5, .int .u64 (s.next : Int), .int .u64 (s.fl : Int)], .agg #[.slice Aa e.add.length ca, .slice Ad e.del.length dc, .int .u64 (e.next : Int), .int .u64 (e.fl : Int)]] W (PostA W r2) := fun W q => by
          rw [hr2]
          obtain ⟨b1, b2, b3, b4⟩ := HSG.out
          have hlen := HR.out.2.len
          exact apply_any W s e HR.out.2.good _ _ Ad dc (HO4.out.its.old q) (HA4.out.old q) (HD4.out.old q) (by omega) (by omega) (by omega) HR.out.2.nm (fun x hx => by have := (b3 x hx).1; omega) (fun t ht => by have := b4 t ht; omega)
        have HCA := Lib.hid CA
        have HR2 := Lib.hid hr2
        obtain ⟨-, t0, t1, t2, y0, y1, y2, y3⟩ := hS w4 (Old.re _)
        have o4x := Lib.hid o4
        clear CA hr2 CS HB4 HA HD o4
        have hz4 := o4x.out.size
        have hg4 := cell_lt t0
        have hb4 := cell_lt y0
        have hb1 : (0 : Int) ≤ (k : Int) := by omega
        have hb2 : (k : Int) < (l.length : Int) := by omega
        go_wp2_with fail
        go_region_held3 (fun W => Old wr W ∧ W.cell? ⟨g, 0, none⟩ = some (.slice A5 s.files.length c5) ∧ W.cell? ⟨g, 1, none⟩ = some (.int .u64 (s.next : Int)) ∧ W.cell? ⟨g, 2, none⟩ = some (.int .u64 (s.fl : Int)) ∧ W.cell? ⟨b, off + k * 4, none⟩ = some (.slice Aa e.add.length ca) ∧ W.cell? ⟨b, off + k * 4 + 1, none⟩ = some (.slice Ad e.del.length dc) ∧ W.cell? ⟨b, off + k * 4 + 2, none⟩ = some (.int .u64 (e.next : Int)) ∧ W.cell? ⟨b, off + k * 4 + 3, none⟩ = some (.int .u64 (e.fl : Int)))
          (first | exact hS _ (Old.re _).dr | exact ed_far (hS _ (by assumption)) hz4 hg4 hb4 rfl | exact ed_new (hS _ (by assumption)) rfl | exact hS _ (by repeat (first | with_reducible exact Old.re _ | with_reducible assumption | with_reducible apply Old.al | with_reducible apply Old.dr | with_reducible apply Old.dn)))
          (first | (go_at_call 11; (with_reducible refine (HCA.out _ (by repeat (first | with_reducible exact Old.re _ | with_reducible assumption | with_reducible apply Old.al | with_reducible apply Old.dr | with_reducible apply Old.dn))).mono ?_); rintro r w5 ⟨v3, rfl, o5, n3⟩; obtain ⟨A3, c3, rfl, -⟩ := n3.form; (first
            | (have HK5 := Lib.hid ((new_bk w4 27 #[.slice none 0 0, .int .u64 0, .int .u64 0]).old ((Old.re _).dr.tr o5)); have HN5 := Lib.hid (n3.lower (O4.al (.cells #[.slice none 0 0, .int .u64 0, .int .u64 0] 27)).size); have O5 : Old w4 w5 := (((Old.re _).al _).dr).tr o5; have q0 : w5.cell? ⟨w4.heap.size, 0, none⟩ = some (.slice none 0 0) := (HK5.out.cell 0).trans rfl; have q1 : w5.cell? ⟨w4.heap.size, 1, none⟩ = some (.int .u64 0) := (HK5.out.cell 1).trans rfl; have q2 : w5.cell? ⟨w4.heap.size, 2, none⟩ = some (.int .u64 0) := (HK5.out.cell 2).trans rfl; have f0 := HK5.out.fr 0; have f1 := HK5.out.fr 1; have f2 := HK5.out.fr 2; have n3 := trivial)
            | (have HK5 := Lib.hid (new_bk w5 27 #[.slice none 0 0, .int .u64 0, .int .u64 0]); have HN5 := Lib.hid (n3.lower O4.size); have O5 : Old w4 w5 := ((Old.re w4).dr).tr o5; have q0 : (w5.alloc (.cells #[.slice none 0 0, .int .u64 0, .int .u64 0] 27)).cell? ⟨w5.heap.size, 0, none⟩ = some (.slice none 0 0) := (HK5.out.cell 0).trans rfl; have q1 : (w5.alloc (.cells #[.slice none 0 0, .int .u64 0, .int .u64 0] 27)).cell? ⟨w5.heap.size, 1, none⟩ = some (.int .u64 0) := (HK5.out.cell 1).trans rfl; have q2 : (w5.alloc (.cells #[.slice none 0 0, .int .u64 0, .int .u64 0] 27)).cell? ⟨w5.heap.size, 2, none⟩ = some (.int .u64 0) := (HK5.out.cell 2).trans rfl; have f0 := HK5.out.fr 0; have f1 := HK5.out.fr 1; have f2 := HK5.out.fr 2; have n3 := trivial))))
        all_goals
          rename_i hHeld
          clear hS hz4 hg4 hb4 HCA o4x HO4 HA4 HD4 y0 y1 y2 y3 t0 t1 t2 n3 O5 q0 q1 q2 f0 f1 f2
          first
            | (have hH2 : Old wr (w5.alloc (.cells #[.slice A3 r2.2.files.length c3, .int .u64 (r2.2.next : Int), .int .u64 (r2.2.fl : Int)] 27)) := hHeld.1
               have e3 := Lib.hid (new_bk w5 27 #[.slice A3 r2.2.files.length c3, .int .u64 (r2.2.next : Int), .int .u64 (r2.2.fl : Int)])
               have HN6 := Lib.hid (HN5.out.old (old_alloc w5 (.cells #[.slice A3 r2.2.files.length c3, .int .u64 (r2.2.next : Int), .int .u64 (r2.2.fl : Int)] 27)))
               clear hH2 HN5 HK5
               generalize (w5.alloc (.cells #[.slice A3 r2.2.files.length c3, .int .u64 (r2.2.next : Int), .int .u64 (r2.2.fl : Int)] 27)) = w6 at *
               generalize w5.heap.size = h7 at *)
            | (have e0 := HK5.out.set_ 0 (.slice A3 r2.2.files.length c3)
               have e1 := e0.set_ 1 (.int .u64 (r2.2.next : Int))
               have e3 := Lib.hid (show Bk (((w5.setCell ⟨w4.heap.size, 0, none⟩ (.slice A3 r2.2.files.length c3)).setCell ⟨w4.heap.size, 1, none⟩ (.int .u64 (r2.2.next : Int))).setCell ⟨w4.heap.size, 2, none⟩ (.int .u64 (r2.2.fl : Int))) w4.heap.size 27 #[.slice A3 r2.2.files.length c3, .int .u64 (r2.2.next : Int), .int .u64 (r2.2.fl : Int)] from e1.set_ 2 (.int .u64 (r2.2.fl : Int)))
               have HN6 := Lib.hid (((HN5.out.far HK5.out (by decide) 0 (.slice A3 r2.2.files.length c3)).far e0 (by decide) 1 (.int .u64 (r2.2.next : Int))).far e1 (by decide) 2 (.int .u64 (r2.2.fl : Int)))
               clear HN5 HK5 e0 e1
               generalize (((w5.setCell ⟨w4.heap.size, 0, none⟩ (.slice A3 r2.2.files.length c3)).setCell ⟨w4.heap.size, 1, none⟩ (.int .u64 (r2.2.next : Int))).setCell ⟨w4.heap.size, 2, none⟩ (.int .u64 (r2.2.fl : Int))) = w6 at *
               generalize w4.heap.size = h7 at *)
          obtain ⟨O6, t0, t1, t2, -⟩ := hHeld
          have O7 := O3.tr O6
          have HB6 := Lib.hid (HB.out.old O6)
          have HO6 := Lib.hid (HO.out.old O6)
          have z0 : w6.cell? ⟨h7, 0, none⟩ = some (.slice A3 r2.2.files.length c3) := e3.out.cell 0
          have z1 : w6.cell? ⟨h7, 1, none⟩ = some (.int .u64 (r2.2.next : Int)) := e3.out.cell 1
          have z2 : w6.cell? ⟨h7, 2, none⟩ = some (.int .u64 (r2.2.fl : Int)) := e3.out.cell 2
          have fr : ∀ o, w6.frozen? ⟨g, o, none⟩ = false := fun o => HB6.out.fr o
          clear HB HO O6
          by_cases h0 : r2.1 = 0
          · have d0 : (r2.1 == 0) = true := by simpa using h0
            have hRr : runE (l.take (k + 1)) = r2.2 := by
              rw [← take_at HX.out, runE_snoc, ← HR.out.1]
              unfold stepE
              rw [← HR2.out, if_pos h0]
            have hRu : Runs (k + 1) r2.2 := by
              rw [HR2.out] at h0 ⊢
              exact HR.out.2.ap HSM.out h0
            have p1 := HB6.out.set_ 0 (.slice A3 r2.2.files.length c3)
            have p2 := p1.set_ 1 (.int .u64 (r2.2.next : Int))
            have p3 := p2.set_ 2 (.int .u64 (r2.2.fl : Int))
            have HS8 := Lib.hid (And.intro (show Sbox (((w6.setCell ⟨g, 0, none⟩ (.slice A3 r2.2.files.length c3)).setCell ⟨g, 1, none⟩ (.int .u64 (r2.2.next : Int))).setCell ⟨g, 2, none⟩ (.int .u64 (r2.2.fl : Int))) g w.heap.size r2.2 from ⟨_, p3, ((HN6.out.far HB6.out (by decide) 0 (.slice A3 r2.2.files.length c3)).far p1 (by decide) 1 (.int .u64 (r2.2.next : Int))).far p2 (by decide) 2 (.int .u64 (r2.2.fl : Int))⟩) (And.intro hRr.symm hRu))
            clear p1 p2 p3 hRr hRu h0 HN6 HO6 HR HX
            go_wp2
            go_roundw
            case rel => exact ⟨k + 1, r2.2, by go_num, by omega, ((O7.st (p := ⟨g, _, none⟩) hg _).st (p := ⟨g, _, none⟩) hg _).st (p := ⟨g, _, none⟩) hg _, HS8⟩
            case measure => simp [intOf]; omega
          · have d0 : (r2.1 == 0) = false := by simpa using h0
            have hRr : runE (l.take (k + 1)) = s := by
              rw [← take_at HX.out, runE_snoc, ← HR.out.1]
              unfold stepE
              rw [← HR2.out, if_neg h0]
            have HS8 := Lib.hid (And.intro (show Sbox w6 g w.heap.size s from ⟨_, HB6.out, HO6.out⟩) (And.intro hRr.symm HR.out.2.up))
            clear hRr h0 HN6 HO6 HR HX z0 z1 z2
            go_wp2
            go_roundw
            case rel => exact ⟨k + 1, s, by go_num, by omega, O7, HS8⟩
            case measure => simp [intOf]; omega
    · obtain rfl : k = l.length := by omega
      have hlen : s.files.length ≤ 400 := by have := HR.out.2.len; omega
      have HFL := Lib.hid (find_levels HR.out.2.good row)
      have HNO := Lib.hid (over_none HR.out.2.good row)
      clear HR d1 d2
      generalize wr = w3 at *
      go_wp2_with fail
      have hb9 := new_bk w3 60 #[]
      have O9 := O3.al (.cells #[] 60)
      have HB9 := Lib.hid (HB.out.old (old_alloc w3 (.cells #[] 60)))
      have HO9 := Lib.hid (HO.out.its.old (old_alloc w3 (.cells #[] 60)))
      have HE9 := Lib.hid (OwnE.empty (base := w3.heap.size) hb9 (Nat.le_refl _))
      have HZ9 := O3.size
      have hold9 := old_alloc w3 (.cells #[] 60)
      clear hb9 t0 t1 t2
      go_loopw [9, 10] (fun ov iv wr => ∃ i : Nat, iv = .int .i64 i ∧ i ≤ 3 ∧ Old w3 wr ∧ Hid (OwnE 60 wr w3.heap.size ov (((List.range i).map fun (j : Nat) => s.files.filter (overF (j : Int) row row)).flatten))) (fun _ iv _ => 3 - (intOf iv).toNat)
      case atStart => exact ⟨0, rfl, by omega, hold9, HE9⟩
      case round =>
        clear HE9 O9 HB9 HO9 hold9
        obtain ⟨i, rfl, hi, o1, HA⟩ := hrel
        have HB1 := Lib.hid (HB.out.old o1)
        have t0 : wr.cell? ⟨g, 0, none⟩ = some (.slice A5 s.files.length c5) := HB1.out.cell 0
        have t1 : wr.cell? ⟨g, 1, none⟩ = some (.int .u64 (s.next : Int)) := HB1.out.cell 1
        have t2 : wr.cell? ⟨g, 2, none⟩ = some (.int .u64 (s.fl : Int)) := HB1.out.cell 2
        by_cases hlt1 : i < 3
        · have C := over_code wr (.slice A5 s.files.length c5) s (i : Int) row row (HO.out.its.old o1) (by omega)
          have HLn := Lib.hid (show (((List.range i).map fun (j : Nat) => s.files.filter (overF (j : Int) row row)).flatten).length ≤ 1600 by
            have h1 : ∀ n : Nat, (((List.range n).map fun (j : Nat) => s.files.filter (overF (j : Int) row row)).flatten).length ≤ 400 * n := fun n => by
              induction n with
              | zero => simp
              | succ n ih =>
                rw [List.range_succ, List.map_append, List.flatten_append, List.length_append]
                have h2 := List.length_filter_le (overF (n : Int) row row) s.files
                simp at ih ⊢
                omega
            have := h1 i
            omega)
          have HEx := Lib.hid (show (((List.range i).map fun (j : Nat) => s.files.filter (overF (j : Int) row row)).flatten) ++ s.files.filter (overF (i : Int) row row) = (((List.range (i + 1)).map fun (j : Nat) => s.files.filter (overF (j : Int) row row)).flatten) by
            rw [List.range_succ, List.map_append, List.flatten_append]
            simp)
          have HLf := Lib.hid (List.length_filter_le (overF (i : Int) row row) s.files)
          generalize (((List.range i).map fun (j : Nat) => s.files.filter (overF (j : Int) row row)).flatten) = L9 at *
          generalize s.files.filter (overF (i : Int) row row) = M9 at *
          go_wp2_with fail
          refine C.mono ?_
          rintro r w5 ⟨u, rfl, n5, o5⟩
          have HA5 := Lib.hid (HA.out.old o5)
          have HI5 := Lib.hid n5.its
          have o6 := o1.tr o5
          clear C n5 HA t0 t1 t2
          go_wp2_with (at_builtin; refine wp_its rfl (.tmp 55) (.tmp 60) 24 60 Try.underlying24 Try.infoItem rfl (W0 := w3) o6 _ L9 M9 rfl HA5.out _ rfl HI5.out (by have h1 := HLn.out; have h2 := HLf.out; omega) ?_; intro v8 w8 n8 o8; refine Hid.out ?_)
          rw [HEx.out] at n8
          have HN8 := Lib.hid n8
          clear n8 HEx HLn HLf HA5 HI5 o6 o5
          refine Lib.hid ?_
          go_wp2
          go_roundw
          case rel => exact ⟨i + 1, by go_num, by omega, o8, HN8⟩
          case measure => simp [intOf]; omega
        · obtain rfl : i = 3 := by omega
          have HA3 := Lib.hid (show OwnE 60 wr w3.heap.size u9 (s.files.filter (inF row)) by
            have h1 := HA.out
            rw [HFL.out]
            simpa [List.range_succ] using h1)
          have hfl : (s.files.filter (inF row)).length ≤ 400 := Nat.le_trans (List.length_filter_le _ _) hlen
          have C1 := find_code wr (.slice A5 s.files.length c5) s row (HO.out.its.old o1) (by omega)
          generalize s.files.filter (inF row) = F at *
          clear HA HFL
          go_wp2_with fail
          refine C1.mono ?_
          rintro r w5 ⟨u, rfl, n5, o5⟩
          have o6 := o1.tr o5
          have HA5 := Lib.hid (HA3.out.its.old o5)
          clear HA3 C1 t0 t1 t2
          go_wp2_with fail
          refine (files_any w5 _ F n5.its (by omega)).mono ?_
          rintro r w6 ⟨u6, rfl, o6b, n6⟩
          have o7 := o6.tr o6b
          have HA6 := Lib.hid (HA5.out.old o6b)
          clear n5 o5 o6 o6b HA5
          go_wp2_with fail
          refine (files_any w6 _ F HA6.out (by omega)).mono ?_
          rintro r w7 ⟨u7, rfl, o7b, n7⟩
          have o8 := o7.tr o7b
          have n6b := n6.its.old o7b
          clear HA6 o7 o7b n6
          go_wp2_with fail
          refine (sameFiles_any w7 _ _ F n6b n7.its (by omega)).mono ?_
          rintro r w8 ⟨rfl, o8b⟩
          have o9 := o8.tr o8b
          have HB8 := Lib.hid (HB.out.old o9)
          have C3 := over_code w8 (.slice A5 s.files.length c5) s 3 row row (HO.out.its.old o9) (by omega)
          rw [HNO.out] at C3
          clear n6b n7 o8 o8b
          have t0 : w8.cell? ⟨g, 0, none⟩ = some (.slice A5 s.files.length c5) := HB8.out.cell 0
          have t1 : w8.cell? ⟨g, 1, none⟩ = some (.int .u64 (s.next : Int)) := HB8.out.cell 1
          have t2 : w8.cell? ⟨g, 2, none⟩ = some (.int .u64 (s.fl : Int)) := HB8.out.cell 2
          go_wp2_with fail
          refine C3.mono ?_
          rintro r w9 ⟨u9, rfl, n9, o9b⟩
          obtain ⟨A9, c9, rfl, -⟩ : ∃ A c, u9 = .slice A 0 c ∧ 0 ≤ c := n9.form
          have O9 := O3.tr (o9.tr o9b)
          clear n9 C3 t0 t1 t2
          go_wp2
          go_ret
          exact ⟨rfl, O9⟩

set_option maxRecDepth 100000 in
theorem manifestFinds_lifted (os : Os) (started : os.Started) (H : Type) (enc : TypeId × Value → H) :
    ReturnsInHanded {} Try.checked os 8 .any (Rows.manifestFindsSpec.pre6 enc Try.prog Try.f8 Rows.manifestFindsRow.domain false) (Rows.manifestFindsSpec.post enc Try.prog Try.f8 false true false false) := by
  refine returnsInHanded_of_change_sized (C := Try.checked) Try.own started (by kernel_rfl) Try.func8
    (ChangeSpec.witness6 (enc := enc) (C := Try.checked) false ⟨#[], #[.slice none 0 0, .string ByteArray.empty], []⟩ 8 (by kernel_rfl) (by kernel_rfl) (by kernel_rfl) (by kernel_rfl)) ?_
  intro W base args ds gs before hval0 hW hcnd hsz0 _
  have hval : ∀ (j : Nat) t v, Try.f8.params[j]? = some t → args[j]? = some v → Value.okWide Try.prog W .any base t v := hval0
  have hW' := hW
  obtain ⟨p, q, hA0, hV, rfl, hfz, hnd⟩ := hW
  have hA : DataW.TrodAll enc Try.prog W 0 (fun _ => true) true Try.f8.params.toList args.toList ds p := hA0
  have hsz : (DataW.weightsEach Try.prog (Try.f8.params.toList ++ Rows.manifestFindsSpec.plain.varTypes Try.prog) (ds ++ gs)).all (· ≤ reachBytes) = true := hsz0
  rw [Try.params8] at hA hval hsz
  obtain ⟨v0, v1, d0, d1, p0, p1, rfl, rfl, rfl, h0, h1⟩ := trodAll_two hA
  obtain ⟨rfl, rfl⟩ := trodVars_none hV
  have hlt : ∀ x ∈ p0 ++ (p1), x.block < W.heap.size := fun x hx => hW'.lt x (by simpa using hx)
  have k0 := h0
  have k1 := h1
  obtain ⟨a0, o0, m0⟩ := open_eds (hval 0 22 v0 rfl rfl) h0
  obtain ⟨a1, rfl, o1⟩ := open_str (hval 1 9 v1 rfl rfl) h1
  clear hA0 hval0 hsz0
  refine (law_walk a0 v0 a1 o1 W o0 m0).mono fun e W' ⟨he, hb⟩ => ?_
  subst he
  refine ⟨_, rfl, _, _, _, [], p0 ++ (p1), [], hW', trodAll_mk1 (shut_bool Try.underlying4 _), ?_, rfl, hb.frame _, fun h => by cases h⟩
  have r0 := Below.trod Try.laidOut (by kernel_rfl) (of_decide_eq_true (by kernel_rfl)) k0 hb (fun x hx => hlt x (by simp [hx]))
  have r1 := Below.trod Try.laidOut (by kernel_rfl) (of_decide_eq_true (by kernel_rfl)) k1 hb (fun x hx => hlt x (by simp [hx]))
  exact trodAll_mk2 r0 r1

theorem manifestFinds_holds : Rows.ManifestFindsSaid :=
  OpenClaim.holds_of_wide 8 Try.f8 rfl rfl rfl rfl rfl rfl rfl ⟨rfl, rfl, rfl, rfl, rfl⟩ rfl rfl rfl rfl rfl (by kernel_rfl) Try.func8 (by kernel_rfl)
    (of_decide_eq_true (by kernel_rfl)) (by unfold Func.isWrapper; first | (rw [if_pos (by decide +kernel)]; kernel_rfl) | (rw [if_neg (by decide +kernel)]; exact ⟨rfl, rfl⟩))
    (fun os started H enc _ => manifestFinds_lifted os started H enc)
#print axioms manifestFinds_holds
end Go.Proofs.Yteglddggjkibcaa
