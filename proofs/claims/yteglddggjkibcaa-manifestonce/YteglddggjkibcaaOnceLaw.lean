/-
  ManifestOnce: of each level above 0 any row is in one file at most, and files have unlike names: the law answers true, whatever comes in, and leaves all as it was. No conditions.
-/
import Derived.Test.YteglddggjkibcaaFRun
namespace Go.Proofs.Yteglddggjkibcaa
open Go.ChangeShapes Go.WideShapes Go.ChangeAt Go.RowKit Go.Joins Go.Deep

set_option maxRecDepth 100000 in
set_option maxHeartbeats 16000000 in
theorem law_walk (l : List Ed) (v : Value) (row : List UInt8) (hr : row.length ≤ maxLen) (w : World) (hl : Eds w v l) (hm : l.length ≤ maxLen) :
    Calls Try.prog 5 #[v, .string (B row)] w fun r w' => r = .returned (.bool true) ∧ Old w w' := by
  obtain ⟨A, cap, rfl, -⟩ := hl.form
  have HL := Lib.hid hl
  have hm2 : l.length ≤ 9223372036854775807 := by unfold maxLen at hm; omega
  have hr2 : row.length ≤ 9223372036854775807 := by unfold maxLen at hr; omega
  clear hl hm hr
  go_enter Try.func5, Try.ntmps5
  by_cases hc1 : l.length ≤ 10
  case neg =>
    go_wp2_with (go_at_call 9; refine (shown_any _).mono ?_; rintro r w1 ⟨rfl, o1⟩)
    go_ret
    exact ⟨rfl, o1⟩
  by_cases hc2 : row.length ≤ 100
  case neg =>
    go_wp2_with (go_at_call 9; refine (shown_any _).mono ?_; rintro r w1 ⟨rfl, o1⟩)
    go_ret
    exact ⟨rfl, o1⟩
  have d1 : decide ((10 : Int) < (l.length : Int)) = false := by simp; omega
  have d2 : decide ((100 : Int) < (row.length : Int)) = false := by simp; omega
  go_wp2_with fail
  refine (shown_any w).mono ?_
  rintro r w1 ⟨rfl, o1⟩
  go_wp2_with fail
  have hb := new_bk w1 27 #[.slice none 0 0, .int .u64 0, .int .u64 0]
  have O2 := o1.al (.cells #[.slice none 0 0, .int .u64 0, .int .u64 0] 27)
  have HS2 : Hid (Sbox (w1.alloc (.cells #[.slice none 0 0, .int .u64 0, .int .u64 0] 27)) w1.heap.size w.heap.size St0) := Lib.hid ⟨_, hb, OwnE.nil _ _ _⟩
  have hg := o1.size
  generalize w1.alloc (.cells #[.slice none 0 0, .int .u64 0, .int .u64 0] 27) = w2 at *
  obtain ⟨g, hgg⟩ : ∃ g, g = w1.heap.size := ⟨_, rfl⟩
  rw [← hgg] at HS2 hg ⊢
  clear hb o1 hgg
  go_loopw [6] (fun iv wr => ∃ (k : Nat) (s : St), iv = .int .i64 k ∧ k ≤ l.length ∧ Old w wr ∧ Hid (Sbox wr g w.heap.size s ∧ s = runE (l.take k) ∧ Runs k s)) (fun iv _ => l.length - (intOf iv).toNat)
  case atStart => exact ⟨0, St0, rfl, Nat.zero_le _, O2, Lib.hid ⟨HS2.out, rfl, Runs.zero⟩⟩
  case round =>
    clear HS2 O2
    obtain ⟨k, s, rfl, hk, O3, HS⟩ := hrel
    obtain ⟨vs, hb, ho⟩ := HS.out.1
    obtain ⟨A5, c5, rfl, -⟩ := ho.form
    have HB := Lib.hid hb
    have HO := Lib.hid ho
    have HR := Lib.hid HS.out.2
    clear hb ho HS
    have t0 : wr.cell? ⟨g, 0, none⟩ = some (.slice A5 s.files.length c5) := HB.out.cell 0
    have t1 : wr.cell? ⟨g, 1, none⟩ = some (.int .u64 (s.next : Int)) := HB.out.cell 1
    have t2 : wr.cell? ⟨g, 2, none⟩ = some (.int .u64 (s.fl : Int)) := HB.out.cell 2
    by_cases hlt : k < l.length
    · obtain ⟨e, HX⟩ : ∃ e, Hid (l[k]? = some e) := ⟨l[k], Lib.hid (List.getElem?_eq_getElem hlt)⟩
      obtain ⟨b, off, rfl, va, Ad, dc, ⟨y0, y1, y2, y3⟩, ha, hd, hl1, hl2, -, -⟩ := (HL.out.old O3).at_ HX.out
      obtain ⟨Aa, ca, rfl, -⟩ := ha.form
      have HA := Lib.hid ha
      have HD := Lib.hid hd
      have CS := Lib.hid (small_any wr _ Ad dc e ha hd hl1 (Nat.le_trans hd.1 hl2))
      clear ha hd hl1 hl2
      cases hsm : smallE e with
      | false =>
        rw [hsm] at CS
        clear hsm
        go_wp2_with fail
        refine CS.out.mono ?_
        rintro r w4 ⟨rfl, o4⟩
        have O4 := O3.tr o4
        clear CS o4 t0 t1 t2 y0 y1 y2 y3
        go_wp2_with (go_at_call 9; refine (shown_any _).mono ?_; rintro r w5 ⟨rfl, o5⟩)
        go_ret
        exact ⟨rfl, O4.tr o5⟩
      | true =>
        rw [hsm] at CS
        have HSM := Lib.hid hsm
        have HSG := Lib.hid (small_get hsm)
        clear hsm
        go_wp2_with fail
        refine CS.out.mono ?_
        rintro r w4 ⟨rfl, o4⟩
        have O4 := O3.tr o4
        have hS : ∀ W, Old w4 W → _ := fun W (q : Old w4 W) => ed_keep (g := g) (b := b) (o2 := off + k * 4) ⟨o4, cell_old t0 o4, cell_old t1 o4, cell_old t2 o4, cell_old y0 o4, cell_old y1 o4, cell_old y2 o4, cell_old y3 o4⟩ q
        have HB4 := Lib.hid (HB.out.old o4)
        have HO4 := Lib.hid (HO.out.old o4)
        have HA4 := Lib.hid (HA.out.old o4)
        have HD4 := Lib.hid (HD.out.old o4)
        obtain ⟨r2, hr2⟩ : ∃ r2, r2 = apF s e := ⟨_, rfl⟩
        have CA : ∀ W, Old w4 W → Calls Try.prog 11 #[.agg #[.slice A5 s.files.length c5, .int .u64 (s.next : Int), .int .u64 (s.fl : Int)], .agg #[.slice Aa e.add.length ca, .slice Ad e.del.length dc, .int .u64 (e.next : Int), .int .u64 (e.fl : Int)]] W (PostA W r2) := fun W q => by
          rw [hr2]
          obtain ⟨b1, b2, b3, b4⟩ := HSG.out
          have hlen := HR.out.2.len
          exact apply_any W s e HR.out.2.good _ _ Ad dc (HO4.out.its.old q) (HA4.out.old q) (HD4.out.old q) (by omega) (by omega) (by omega) HR.out.2.nm (fun x hx => by have := (b3 x hx).1; omega) (fun t ht => by have := b4 t ht; omega)
        have HCA := Lib.hid CA
        have HR2 := Lib.hid hr2
        obtain ⟨-, t0, t1, t2, y0, y1, y2, y3⟩ := hS w4 (Old.re _)
        have o4x := Lib.hid o4
        clear CA hr2 CS HB4 HA HD o4
        have hz4 := o4x.out.size
        have hg4 := cell_lt t0
        have hb4 := cell_lt y0
        have hb1 : (0 : Int) ≤ (k : Int) := by omega
        have hb2 : (k : Int) < (l.length : Int) := by omega
        go_wp2_with fail
        go_region_held3 (fun W => Old wr W ∧ W.cell? ⟨g, 0, none⟩ = some (.slice A5 s.files.length c5) ∧ W.cell? ⟨g, 1, none⟩ = some (.int .u64 (s.next : Int)) ∧ W.cell? ⟨g, 2, none⟩ = some (.int .u64 (s.fl : Int)) ∧ W.cell? ⟨b, off + k * 4, none⟩ = some (.slice Aa e.add.length ca) ∧ W.cell? ⟨b, off + k * 4 + 1, none⟩ = some (.slice Ad e.del.length dc) ∧ W.cell? ⟨b, off + k * 4 + 2, none⟩ = some (.int .u64 (e.next : Int)) ∧ W.cell? ⟨b, off + k * 4 + 3, none⟩ = some (.int .u64 (e.fl : Int)))
          (first | exact hS _ (Old.re _).dr | exact ed_far (hS _ (by assumption)) hz4 hg4 hb4 rfl | exact ed_new (hS _ (by assumption)) rfl | exact hS _ (by repeat (first | with_reducible exact Old.re _ | with_reducible assumption | with_reducible apply Old.al | with_reducible apply Old.dr | with_reducible apply Old.dn)))
          (first | (go_at_call 11; (with_reducible refine (HCA.out _ (by repeat (first | with_reducible exact Old.re _ | with_reducible assumption | with_reducible apply Old.al | with_reducible apply Old.dr | with_reducible apply Old.dn))).mono ?_); rintro r w5 ⟨v3, rfl, o5, n3⟩; obtain ⟨A3, c3, rfl, -⟩ := n3.form; (first
            | (have HK5 := Lib.hid ((new_bk w4 27 #[.slice none 0 0, .int .u64 0, .int .u64 0]).old ((Old.re _).dr.tr o5)); have HN5 := Lib.hid (n3.lower (O4.al (.cells #[.slice none 0 0, .int .u64 0, .int .u64 0] 27)).size); have O5 : Old w4 w5 := (((Old.re _).al _).dr).tr o5; have q0 : w5.cell? ⟨w4.heap.size, 0, none⟩ = some (.slice none 0 0) := (HK5.out.cell 0).trans rfl; have q1 : w5.cell? ⟨w4.heap.size, 1, none⟩ = some (.int .u64 0) := (HK5.out.cell 1).trans rfl; have q2 : w5.cell? ⟨w4.heap.size, 2, none⟩ = some (.int .u64 0) := (HK5.out.cell 2).trans rfl; have f0 := HK5.out.fr 0; have f1 := HK5.out.fr 1; have f2 := HK5.out.fr 2; have n3 := trivial)
            | (have HK5 := Lib.hid (new_bk w5 27 #[.slice none 0 0, .int .u64 0, .int .u64 0]); have HN5 := Lib.hid (n3.lower O4.size); have O5 : Old w4 w5 := ((Old.re w4).dr).tr o5; have q0 : (w5.alloc (.cells #[.slice none 0 0, .int .u64 0, .int .u64 0] 27)).cell? ⟨w5.heap.size, 0, none⟩ = some (.slice none 0 0) := (HK5.out.cell 0).trans rfl; have q1 : (w5.alloc (.cells #[.slice none 0 0, .int .u64 0, .int .u64 0] 27)).cell? ⟨w5.heap.size, 1, none⟩ = some (.int .u64 0) := (HK5.out.cell 1).trans rfl; have q2 : (w5.alloc (.cells #[.slice none 0 0, .int .u64 0, .int .u64 0] 27)).cell? ⟨w5.heap.size, 2, none⟩ = some (.int .u64 0) := (HK5.out.cell 2).trans rfl; have f0 := HK5.out.fr 0; have f1 := HK5.out.fr 1; have f2 := HK5.out.fr 2; have n3 := trivial))))
        all_goals
          rename_i hHeld
          clear hS hz4 hg4 hb4 HCA o4x HO4 HA4 HD4 y0 y1 y2 y3 t0 t1 t2 n3 O5 q0 q1 q2 f0 f1 f2
          first
            | (have hH2 : Old wr (w5.alloc (.cells #[.slice A3 r2.2.files.length c3, .int .u64 (r2.2.next : Int), .int .u64 (r2.2.fl : Int)] 27)) := hHeld.1
               have e3 := Lib.hid (new_bk w5 27 #[.slice A3 r2.2.files.length c3, .int .u64 (r2.2.next : Int), .int .u64 (r2.2.fl : Int)])
               have HN6 := Lib.hid (HN5.out.old (old_alloc w5 (.cells #[.slice A3 r2.2.files.length c3, .int .u64 (r2.2.next : Int), .int .u64 (r2.2.fl : Int)] 27)))
               clear hH2 HN5 HK5
               generalize (w5.alloc (.cells #[.slice A3 r2.2.files.length c3, .int .u64 (r2.2.next : Int), .int .u64 (r2.2.fl : Int)] 27)) = w6 at *
               generalize w5.heap.size = h7 at *)
            | (have e0 := HK5.out.set_ 0 (.slice A3 r2.2.files.length c3)
               have e1 := e0.set_ 1 (.int .u64 (r2.2.next : Int))
               have e3 := Lib.hid (show Bk (((w5.setCell ⟨w4.heap.size, 0, none⟩ (.slice A3 r2.2.files.length c3)).setCell ⟨w4.heap.size, 1, none⟩ (.int .u64 (r2.2.next : Int))).setCell ⟨w4.heap.size, 2, none⟩ (.int .u64 (r2.2.fl : Int))) w4.heap.size 27 #[.slice A3 r2.2.files.length c3, .int .u64 (r2.2.next : Int), .int .u64 (r2.2.fl : Int)] from e1.set_ 2 (.int .u64 (r2.2.fl : Int)))
               have HN6 := Lib.hid (((HN5.out.far HK5.out (by decide) 0 (.slice A3 r2.2.files.length c3)).far e0 (by decide) 1 (.int .u64 (r2.2.next : Int))).far e1 (by decide) 2 (.int .u64 (r2.2.fl : Int)))
               clear HN5 HK5 e0 e1
               generalize (((w5.setCell ⟨w4.heap.size, 0, none⟩ (.slice A3 r2.2.files.length c3)).setCell ⟨w4.heap.size, 1, none⟩ (.int .u64 (r2.2.next : Int))).setCell ⟨w4.heap.size, 2, none⟩ (.int .u64 (r2.2.fl : Int))) = w6 at *
               generalize w4.heap.size = h7 at *)
          obtain ⟨O6, t0, t1, t2, -⟩ := hHeld
          have O7 := O3.tr O6
          have HB6 := Lib.hid (HB.out.old O6)
          have HO6 := Lib.hid (HO.out.old O6)
          have z0 : w6.cell? ⟨h7, 0, none⟩ = some (.slice A3 r2.2.files.length c3) := e3.out.cell 0
          have z1 : w6.cell? ⟨h7, 1, none⟩ = some (.int .u64 (r2.2.next : Int)) := e3.out.cell 1
          have z2 : w6.cell? ⟨h7, 2, none⟩ = some (.int .u64 (r2.2.fl : Int)) := e3.out.cell 2
          have fr : ∀ o, w6.frozen? ⟨g, o, none⟩ = false := fun o => HB6.out.fr o
          clear HB HO O6
          by_cases h0 : r2.1 = 0
          · have d0 : (r2.1 == 0) = true := by simpa using h0
            have hRr : runE (l.take (k + 1)) = r2.2 := by
              rw [← take_at HX.out, runE_snoc, ← HR.out.1]
              unfold stepE
              rw [← HR2.out, if_pos h0]
            have hRu : Runs (k + 1) r2.2 := by
              rw [HR2.out] at h0 ⊢
              exact HR.out.2.ap HSM.out h0
            have p1 := HB6.out.set_ 0 (.slice A3 r2.2.files.length c3)
            have p2 := p1.set_ 1 (.int .u64 (r2.2.next : Int))
            have p3 := p2.set_ 2 (.int .u64 (r2.2.fl : Int))
            have HS8 := Lib.hid (And.intro (show Sbox (((w6.setCell ⟨g, 0, none⟩ (.slice A3 r2.2.files.length c3)).setCell ⟨g, 1, none⟩ (.int .u64 (r2.2.next : Int))).setCell ⟨g, 2, none⟩ (.int .u64 (r2.2.fl : Int))) g w.heap.size r2.2 from ⟨_, p3, ((HN6.out.far HB6.out (by decide) 0 (.slice A3 r2.2.files.length c3)).far p1 (by decide) 1 (.int .u64 (r2.2.next : Int))).far p2 (by decide) 2 (.int .u64 (r2.2.fl : Int))⟩) (And.intro hRr.symm hRu))
            clear p1 p2 p3 hRr hRu h0 HN6 HO6 HR HX
            go_wp2
            go_roundw
            case rel => exact ⟨k + 1, r2.2, by go_num, by omega, ((O7.st (p := ⟨g, _, none⟩) hg _).st (p := ⟨g, _, none⟩) hg _).st (p := ⟨g, _, none⟩) hg _, HS8⟩
            case measure => simp [intOf]; omega
          · have d0 : (r2.1 == 0) = false := by simpa using h0
            have hRr : runE (l.take (k + 1)) = s := by
              rw [← take_at HX.out, runE_snoc, ← HR.out.1]
              unfold stepE
              rw [← HR2.out, if_neg h0]
            have HS8 := Lib.hid (And.intro (show Sbox w6 g w.heap.size s from ⟨_, HB6.out, HO6.out⟩) (And.intro hRr.symm HR.out.2.up))
            clear hRr h0 HN6 HO6 HR HX z0 z1 z2
            go_wp2
            go_roundw
            case rel => exact ⟨k + 1, s, by go_num, by omega, O7, HS8⟩
            case measure => simp [intOf]; omega
    · obtain rfl : k = l.length := by omega
      have hlen : s.files.length ≤ 400 := by have := HR.out.2.len; omega
      have hov1 := over_one HR.out.2.good (lv := 1) (by omega) row
      have hov2 := over_one HR.out.2.good (lv := 2) (by omega) row
      have HON := Lib.hid HR.out.2.good.once
      have HOV := Lib.hid (And.intro hov1 hov2)
      clear HR hov1 hov2 d1 d2
      generalize wr = w3 at *
      go_wp2_with fail
      go_loopw [9] (fun iv wr => ∃ i : Nat, iv = .int .i64 i ∧ i ≤ s.files.length ∧ Old w3 wr) (fun iv _ => s.files.length - (intOf iv).toNat)
      case atStart => exact ⟨0, rfl, Nat.zero_le _, Old.re _⟩
      case round =>
        clear t0 t1 t2
        obtain ⟨i, rfl, hi, o1⟩ := hrel
        have HB1 := Lib.hid (HB.out.old o1)
        have t0 : wr.cell? ⟨g, 0, none⟩ = some (.slice A5 s.files.length c5) := HB1.out.cell 0
        have t1 : wr.cell? ⟨g, 1, none⟩ = some (.int .u64 (s.next : Int)) := HB1.out.cell 1
        have t2 : wr.cell? ⟨g, 2, none⟩ = some (.int .u64 (s.fl : Int)) := HB1.out.cell 2
        by_cases hlt1 : i < s.files.length
        · obtain ⟨x, HX⟩ : ∃ x, Hid (s.files[i]? = some x) := ⟨s.files[i], Lib.hid (List.getElem?_eq_getElem hlt1)⟩
          go_wp2_with fail
          go_loopw [10] (fun iv w7 => ∃ k : Nat, iv = .int .i64 k ∧ k ≤ i ∧ Old wr w7) (fun iv _ => i - (intOf iv).toNat)
          case atStart => exact ⟨0, rfl, Nat.zero_le _, Old.re _⟩
          case round =>
            clear t0 t1 t2
            rename World => w7
            obtain ⟨k, rfl, hk, o2⟩ := hrel
            have o3 := o1.tr o2
            have HB2 := Lib.hid (HB1.out.old o2)
            have t0 : w7.cell? ⟨g, 0, none⟩ = some (.slice A5 s.files.length c5) := HB2.out.cell 0
            by_cases hlt2 : k < i
            · obtain ⟨y, HY⟩ : ∃ y, Hid (s.files[k]? = some y) := ⟨s.files[k]'(by omega), Lib.hid (List.getElem?_eq_getElem (by omega))⟩
              obtain ⟨b1, off1, rfl, hx⟩ := (HO.out.its.old o3).at_ HX.out
              obtain ⟨b2, off2, hbb, hy⟩ := (HO.out.its.old o3).at_ HY.out
              injection hbb with hbb
              injection hbb with hb1 hb2
              subst hb1 hb2
              have x1 := hx.a1
              have y1 := hy.a1
              have hE : (x.name == y.name) = false := by
                have h1 := HON.out
                unfold Once at h1
                rw [List.nodup_iff_pairwise_ne, List.pairwise_map, List.pairwise_iff_getElem] at h1
                obtain ⟨p1, q1⟩ := List.getElem?_eq_some_iff.1 HX.out
                obtain ⟨p2, q2⟩ := List.getElem?_eq_some_iff.1 HY.out
                have h2 := h1 k i p2 p1 hlt2
                rw [q1, q2] at h2
                simpa using fun e => h2 e.symm
              have z1 : (0 : Int) ≤ (k : Int) := by omega
              have z2 : (k : Int) < (s.files.length : Int) := by omega
              have z3 : (0 : Int) ≤ (i : Int) := by omega
              have z4 : (i : Int) < (s.files.length : Int) := by omega
              clear hx hy HX HY
              go_wp2_with fail
              go_quiet (fail)
              have o4 := o2.dn nq
              clear x1 y1 hE t0
              go_wp2
              go_roundw
              case rel => exact ⟨k + 1, by go_num, by omega, o4⟩
              case measure => simp [intOf]; omega
            · obtain rfl : k = i := by omega
              clear HX
              go_wp2
              go_roundw
              case rel => exact ⟨k + 1, by go_num, by omega, o3⟩
              case measure => simp [intOf]; omega
        · obtain rfl : i = s.files.length := by omega
          have O4 := O3.tr o1
          have C1 := over_code wr (.slice A5 s.files.length c5) s 1 row row (HO.out.its.old o1) (by omega)
          go_wp2_with fail
          refine C1.mono ?_
          rintro r w5 ⟨u, rfl, n5, o5⟩
          obtain ⟨A6, c6, rfl, -⟩ := n5.form
          have h1 := HOV.out.1
          generalize (s.files.filter (overF 1 row row)).length = m1 at *
          have HB5 := Lib.hid (HB1.out.old o5)
          have O5 := O4.tr o5
          have C2 := over_code w5 (.slice A5 s.files.length c5) s 2 row row ((HO.out.its.old o1).old o5) (by omega)
          clear t0 t1 t2 C1 n5
          have t0 : w5.cell? ⟨g, 0, none⟩ = some (.slice A5 s.files.length c5) := HB5.out.cell 0
          have t1 : w5.cell? ⟨g, 1, none⟩ = some (.int .u64 (s.next : Int)) := HB5.out.cell 1
          have t2 : w5.cell? ⟨g, 2, none⟩ = some (.int .u64 (s.fl : Int)) := HB5.out.cell 2
          go_wp2_with fail
          refine C2.mono ?_
          rintro r w6 ⟨u, rfl, n6, o6⟩
          obtain ⟨A7, c7, rfl, -⟩ := n6.form
          have h2 := HOV.out.2
          generalize (s.files.filter (overF 2 row row)).length = m2 at *
          clear n6 C2 t0 t1 t2
          have h2d : decide ((m2 : Int) ≤ 1) = true := by simp; omega
          go_wp2
          go_ret
          exact ⟨rfl, O5.tr o6⟩

set_option maxRecDepth 100000 in
theorem manifestOnce_lifted (os : Os) (started : os.Started) (H : Type) (enc : TypeId × Value → H) :
    ReturnsInHanded {} Try.checked os 5 .any (Rows.manifestOnceSpec.pre6 enc Try.prog Try.f5 Rows.manifestOnceRow.domain false) (Rows.manifestOnceSpec.post enc Try.prog Try.f5 false true false false) := by
  refine returnsInHanded_of_change_sized (C := Try.checked) Try.own started (by kernel_rfl) Try.func5
    (ChangeSpec.witness6 (enc := enc) (C := Try.checked) false ⟨#[], #[.slice none 0 0, .string ByteArray.empty], []⟩ 8 (by kernel_rfl) (by kernel_rfl) (by kernel_rfl) (by kernel_rfl)) ?_
  intro W base args ds gs before hval0 hW hcnd hsz0 _
  have hval : ∀ (j : Nat) t v, Try.f5.params[j]? = some t → args[j]? = some v → Value.okWide Try.prog W .any base t v := hval0
  have hW' := hW
  obtain ⟨p, q, hA0, hV, rfl, hfz, hnd⟩ := hW
  have hA : DataW.TrodAll enc Try.prog W 0 (fun _ => true) true Try.f5.params.toList args.toList ds p := hA0
  have hsz : (DataW.weightsEach Try.prog (Try.f5.params.toList ++ Rows.manifestOnceSpec.plain.varTypes Try.prog) (ds ++ gs)).all (· ≤ reachBytes) = true := hsz0
  rw [Try.params5] at hA hval hsz
  obtain ⟨v0, v1, d0, d1, p0, p1, rfl, rfl, rfl, h0, h1⟩ := trodAll_two hA
  obtain ⟨rfl, rfl⟩ := trodVars_none hV
  have hlt : ∀ x ∈ p0 ++ (p1), x.block < W.heap.size := fun x hx => hW'.lt x (by simpa using hx)
  have k0 := h0
  have k1 := h1
  obtain ⟨a0, o0, m0⟩ := open_eds (hval 0 22 v0 rfl rfl) h0
  obtain ⟨a1, rfl, o1⟩ := open_str (hval 1 9 v1 rfl rfl) h1
  clear hA0 hval0 hsz0
  refine (law_walk a0 v0 a1 o1 W o0 m0).mono fun e W' ⟨he, hb⟩ => ?_
  subst he
  refine ⟨_, rfl, _, _, _, [], p0 ++ (p1), [], hW', trodAll_mk1 (shut_bool Try.underlying4 _), ?_, rfl, hb.frame _, fun h => by cases h⟩
  have r0 := Below.trod Try.laidOut (by kernel_rfl) (of_decide_eq_true (by kernel_rfl)) k0 hb (fun x hx => hlt x (by simp [hx]))
  have r1 := Below.trod Try.laidOut (by kernel_rfl) (of_decide_eq_true (by kernel_rfl)) k1 hb (fun x hx => hlt x (by simp [hx]))
  exact trodAll_mk2 r0 r1

theorem manifestOnce_holds : Rows.ManifestOnceSaid :=
  OpenClaim.holds_of_wide 5 Try.f5 rfl rfl rfl rfl rfl rfl rfl ⟨rfl, rfl, rfl, rfl, rfl⟩ rfl rfl rfl rfl rfl (by kernel_rfl) Try.func5 (by kernel_rfl)
    (of_decide_eq_true (by kernel_rfl)) (by unfold Func.isWrapper; first | (rw [if_pos (by decide +kernel)]; kernel_rfl) | (rw [if_neg (by decide +kernel)]; exact ⟨rfl, rfl⟩))
    (fun os started H enc _ => manifestOnce_lifted os started H enc)
#print axioms manifestOnce_holds
end Go.Proofs.Yteglddggjkibcaa
