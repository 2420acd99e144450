/-
  ManifestBytes: edits are written and read as the document says: the law answers true, whatever comes in, and leaves all as it was. No conditions.
-/
import Derived.Test.YteglddggjkibcaaFRun
import Derived.Test.YteglddggjkibcaaFDr
import Derived.Test.YteglddggjkibcaaFBk
import Derived.Test.YteglddggjkibcaaFSe
namespace Go.Proofs.Yteglddggjkibcaa
open Go.ChangeShapes Go.WideShapes Go.ChangeAt Go.RowKit Go.Joins Go.Deep

theorem dec_small (t : List UInt8) : (decF t).2.add.length ≤ 255 ∧ (decF t).2.del.length ≤ 255 := by
  by_cases h : encF (rdE t) = (0, t)
  · rw [dec_yes h]
    obtain ⟨ok, _⟩ := enc_ok h
    exact ⟨ok.l1, ok.l2⟩
  · rw [dec_no h]
    exact ⟨Nat.zero_le _, Nat.zero_le _⟩
theorem enc_three {e : Ed} {f : Int} {q : List UInt8} (h : encF e = (f, q)) : f = 0 ∨ ((f = 1 ∨ f = 71) ∧ q = []) := by
  rcases enc_cases e with k | k | k
  · rw [k] at h
    injection h with h1 h2
    exact .inr ⟨.inl h1.symm, h2.symm⟩
  · rw [k] at h
    injection h with h1 h2
    exact .inr ⟨.inr h1.symm, h2.symm⟩
  · rw [k] at h
    injection h with h1 h2
    exact .inl h1.symm
theorem edit_any2 (w : World) (va : Value) (Ad : Option Addr) (dc : Nat) (e : Ed) (h : Itms w va e.add) (hl : e.add.length ≤ 50000) :
    Calls Try.prog 13 #[.agg #[va, .slice Ad e.del.length dc, .int .u64 (e.next : Int), .int .u64 (e.fl : Int)]] w fun r w' => ∃ A c, r = .returned (.agg #[.slice A e.add.length c, .slice Ad e.del.length dc, .int .u64 (e.next : Int), .int .u64 (e.fl : Int)]) ∧ Old w w' ∧ Itms w' (.slice A e.add.length c) e.add := by
  refine (edit_any w va Ad e.del.length dc e h hl).mono ?_
  rintro r w' ⟨u, hr, o, n⟩
  obtain ⟨A, c, rfl, -⟩ := n.form
  exact ⟨A, c, hr, o, n.its⟩

set_option maxRecDepth 100000 in
set_option maxHeartbeats 16000000 in
theorem law_walk (e : Ed) (va : Value) (Ad : Option Addr) (dc : Nat) (t : List UInt8) (w : World) (ha : Itms w va e.add) (hd : Strs w Ad dc e.del) (m1 : e.add.length ≤ maxLen) (m2 : dc ≤ maxLen) (n1 : e.next < 18446744073709551616) (n2 : e.fl < 18446744073709551616) (ht : t.length ≤ maxLen) :
    Calls Try.prog 4 #[.agg #[va, .slice Ad e.del.length dc, .int .u64 (e.next : Int), .int .u64 (e.fl : Int)], .string (B t)] w fun r w' => r = .returned (.bool true) ∧ Old w w' := by
  have ht2 : t.length ≤ 9223372036854775807 := by unfold maxLen at ht; omega
  clear ht
  obtain ⟨Aa, ca, rfl, -⟩ := ha.form
  have HA := Lib.hid ha
  have HD := Lib.hid hd
  have CS := Lib.hid fun (W : World) (o : Old w W) => small_any W (.slice Aa e.add.length ca) Ad dc e (ha.old o) (hd.old o) m1 (Nat.le_trans hd.1 m2)
  clear ha hd m1 m2
  go_enter Try.func4, Try.ntmps4
  go_wp2_with fail
  have B1 := new_bk w 34 #[.slice Aa e.add.length ca, .slice Ad e.del.length dc, .int .u64 (e.next : Int), .int .u64 (e.fl : Int)]
  have O1 := (Old.re w).al (.cells #[.slice Aa e.add.length ca, .slice Ad e.del.length dc, .int .u64 (e.next : Int), .int .u64 (e.fl : Int)] 34)
  generalize w.alloc (.cells #[.slice Aa e.add.length ca, .slice Ad e.del.length dc, .int .u64 (e.next : Int), .int .u64 (e.fl : Int)] 34) = w1 at *
  generalize w.heap.size = g at *
  have C := Lib.hid (CS.out w1 O1)
  clear CS
  cases hs : smallE e with
  | false =>
    rw [hs] at C
    clear hs
    refine C.out.mono ?_
    rintro r w2 ⟨rfl, o2⟩
    clear C
    go_wp2_with (go_at_call 9; refine (shown_any _).mono ?_; rintro r w9 ⟨rfl, o9⟩)
    go_ret
    exact ⟨rfl, (O1.tr o2).tr o9⟩
  | true =>
    rw [hs] at C
    have HSG := Lib.hid (small_get hs)
    clear hs
    refine C.out.mono ?_
    rintro r w2 ⟨rfl, o2⟩
    have B2 := B1.old o2
    have O2 := O1.tr o2
    clear C B1 O1 o2
    by_cases hnl : t.length ≤ 600
    case neg =>
      go_wp2_with (go_at_call 9; refine (shown_any _).mono ?_; rintro r w9 ⟨rfl, o9⟩)
      go_ret
      exact ⟨rfl, O2.tr o9⟩
    have dnl : decide ((600 : Int) < (t.length : Int)) = false := by simp; omega
    go_wp2_with fail
    refine (shown_any w2).mono ?_
    rintro r w3 ⟨rfl, o3⟩
    have HB3 := Lib.hid (B2.old o3)
    have HO3 := Lib.hid (O2.tr o3)
    clear B2 O2 o3 ht2 dnl
    have b1 : e.add.length ≤ 40 := HSG.out.1
    have b2 : e.del.length ≤ 40 := HSG.out.2.1
    clear HSG
    obtain ⟨f, q, hE⟩ : ∃ f q, encF e = (f, q) := ⟨_, _, rfl⟩
    have CE := Lib.hid (encode_any w3 e (.slice Aa e.add.length ca) Ad dc (HA.out.old HO3.out) (HD.out.old HO3.out) (by omega) (by omega) n1 n2)
    rw [hE] at CE
    have c0 : w3.cell? ⟨g, 0, none⟩ = some (.slice Aa e.add.length ca) := HB3.out.cell 0
    have c1 : w3.cell? ⟨g, 1, none⟩ = some (.slice Ad e.del.length dc) := HB3.out.cell 1
    have c2 : w3.cell? ⟨g, 2, none⟩ = some (.int .u64 (e.next : Int)) := HB3.out.cell 2
    have c3 : w3.cell? ⟨g, 3, none⟩ = some (.int .u64 (e.fl : Int)) := HB3.out.cell 3
    go_wp2_with fail
    refine CE.out.mono ?_
    rintro r w4 ⟨rfl, o4⟩
    have HB4 := Lib.hid (HB3.out.old o4)
    have HO4 := Lib.hid (HO3.out.tr o4)
    clear c0 c1 c2 c3 CE HB3 HO3 o4
    have c0 : w4.cell? ⟨g, 0, none⟩ = some (.slice Aa e.add.length ca) := HB4.out.cell 0
    have c1 : w4.cell? ⟨g, 1, none⟩ = some (.slice Ad e.del.length dc) := HB4.out.cell 1
    have c2 : w4.cell? ⟨g, 2, none⟩ = some (.int .u64 (e.next : Int)) := HB4.out.cell 2
    have c3 : w4.cell? ⟨g, 3, none⟩ = some (.int .u64 (e.fl : Int)) := HB4.out.cell 3
    go_wp2_with fail
    refine (edit_any2 w4 (.slice Aa e.add.length ca) Ad dc e (HA.out.old HO4.out) (by omega)).mono ?_
    rintro r w5 ⟨A5, c5, rfl, o5, n5⟩
    have HB5 := Lib.hid (HB4.out.old o5)
    have HO5 := Lib.hid (HO4.out.tr o5)
    have CE := Lib.hid (rencode_any w5 e (.slice A5 e.add.length c5) Ad dc n5 (HD.out.old HO5.out) (by omega) (by omega) n1 n2)
    rw [hE] at CE
    have HE := Lib.hid hE
    clear c0 c1 c2 c3 HB4 HO4 o5 n5 hE
    go_wp2_with fail
    refine CE.out.mono ?_
    rintro r w6 ⟨rfl, o6⟩
    have HB6 := Lib.hid (HB5.out.old o6)
    have HO6 := Lib.hid (HO5.out.tr o6)
    clear CE HB5 HO5 o6
    obtain ⟨jh, x, hD⟩ : ∃ jh x, decF t = (jh, x) := ⟨_, _, rfl⟩
    have CD := Lib.hid fun (W : World) => decode_any t (by omega) W
    have CR := Lib.hid fun (W : World) => rdecode_any t (by omega) W
    rw [rdec_eq] at CR
    have hx := dec_small t
    rw [hD] at CD CR hx
    clear hD
    have hx1 : x.add.length ≤ 255 := hx.1
    have hx2 : x.del.length ≤ 255 := hx.2
    clear hx
    go_wp2_with fail
    refine (CD.out w6).mono ?_
    rintro r w7 ⟨v9, A9, c9, rfl, o7, i9, s9⟩
    obtain ⟨Y9, y9, rfl, -⟩ := i9.form
    clear CD
    dsimp only at s9 ⊢
    go_wp2_with fail
    have HB7 := Lib.hid ((HB6.out.old o7).alloc (.cells #[.slice Y9 x.add.length y9, .slice A9 x.del.length c9, .int .u64 (x.next : Int), .int .u64 (x.fl : Int)] 34))
    have HO7 := Lib.hid ((HO6.out.tr o7).al (.cells #[.slice Y9 x.add.length y9, .slice A9 x.del.length c9, .int .u64 (x.next : Int), .int .u64 (x.fl : Int)] 34))
    have HX9 := Lib.hid (new_bk w7 34 #[.slice Y9 x.add.length y9, .slice A9 x.del.length c9, .int .u64 (x.next : Int), .int .u64 (x.fl : Int)])
    have HI9 := Lib.hid (i9.old (old_alloc w7 (.cells #[.slice Y9 x.add.length y9, .slice A9 x.del.length c9, .int .u64 (x.next : Int), .int .u64 (x.fl : Int)] 34)))
    have HS9 := Lib.hid (s9.old (old_alloc w7 (.cells #[.slice Y9 x.add.length y9, .slice A9 x.del.length c9, .int .u64 (x.next : Int), .int .u64 (x.fl : Int)] 34)))
    generalize w7.alloc (.cells #[.slice Y9 x.add.length y9, .slice A9 x.del.length c9, .int .u64 (x.next : Int), .int .u64 (x.fl : Int)] 34) = w8 at *
    generalize w7.heap.size = g9 at *
    clear HB6 HO6 o7 i9 s9
    refine (CR.out w8).mono ?_
    rintro r w9 ⟨v11, A11, c11, rfl, o9, i11, s11⟩
    obtain ⟨Y11, y11, rfl, -⟩ := i11.form
    clear CR
    dsimp only at s11 ⊢
    go_upto_region 7 with (fail)
    have O10 := o9.al (.cells #[.slice Y11 x.add.length y11, .slice A11 x.del.length c11, .int .u64 (x.next : Int), .int .u64 (x.fl : Int)] 41)
    have HB10 := Lib.hid (HB7.out.old O10)
    have HO10 := Lib.hid (HO7.out.tr O10)
    have HX9 := Lib.hid (HX9.out.old O10)
    have HI9 := Lib.hid (HI9.out.old O10)
    have HS9 := Lib.hid (HS9.out.old O10)
    have HX11 := Lib.hid (new_bk w9 41 #[.slice Y11 x.add.length y11, .slice A11 x.del.length c11, .int .u64 (x.next : Int), .int .u64 (x.fl : Int)])
    have HI11 := Lib.hid (i11.old (old_alloc w9 (.cells #[.slice Y11 x.add.length y11, .slice A11 x.del.length c11, .int .u64 (x.next : Int), .int .u64 (x.fl : Int)] 41)))
    have HS11 := Lib.hid (s11.old (old_alloc w9 (.cells #[.slice Y11 x.add.length y11, .slice A11 x.del.length c11, .int .u64 (x.next : Int), .int .u64 (x.fl : Int)] 41)))
    generalize w9.alloc (.cells #[.slice Y11 x.add.length y11, .slice A11 x.del.length c11, .int .u64 (x.next : Int), .int .u64 (x.fl : Int)] 41) = w10 at *
    generalize w9.heap.size = g11 at *
    clear HB7 HO7 O10 o9 i11 s11
    have t0 : w10.cell? ⟨g9, 0, none⟩ = some (.slice Y9 x.add.length y9) := HX9.out.cell 0
    have t1 : w10.cell? ⟨g9, 1, none⟩ = some (.slice A9 x.del.length c9) := HX9.out.cell 1
    have t2 : w10.cell? ⟨g9, 2, none⟩ = some (.int .u64 (x.next : Int)) := HX9.out.cell 2
    have t3 : w10.cell? ⟨g9, 3, none⟩ = some (.int .u64 (x.fl : Int)) := HX9.out.cell 3
    have u0 : w10.cell? ⟨g11, 0, none⟩ = some (.slice Y11 x.add.length y11) := HX11.out.cell 0
    have u1 : w10.cell? ⟨g11, 1, none⟩ = some (.slice A11 x.del.length c11) := HX11.out.cell 1
    have u2 : w10.cell? ⟨g11, 2, none⟩ = some (.int .u64 (x.next : Int)) := HX11.out.cell 2
    have u3 : w10.cell? ⟨g11, 3, none⟩ = some (.int .u64 (x.fl : Int)) := HX11.out.cell 3
    have hS : ∀ W, Old w10 W → (Old w10 W ∧ W.cell? ⟨g9, 0, none⟩ = some (.slice Y9 x.add.length y9) ∧ W.cell? ⟨g9, 1, none⟩ = some (.slice A9 x.del.length c9) ∧ W.cell? ⟨g9, 2, none⟩ = some (.int .u64 (x.next : Int)) ∧ W.cell? ⟨g9, 3, none⟩ = some (.int .u64 (x.fl : Int)) ∧ W.cell? ⟨g11, 0, none⟩ = some (.slice Y11 x.add.length y11) ∧ W.cell? ⟨g11, 1, none⟩ = some (.slice A11 x.del.length c11) ∧ W.cell? ⟨g11, 2, none⟩ = some (.int .u64 (x.next : Int)) ∧ W.cell? ⟨g11, 3, none⟩ = some (.int .u64 (x.fl : Int))) := fun W q => ⟨q, cell_old t0 q, cell_old t1 q, cell_old t2 q, cell_old t3 q, cell_old u0 q, cell_old u1 q, cell_old u2 q, cell_old u3 q⟩
    have Owr := Old.re w10
    have dqq : (q == q) = true := by simp
    clear HX9 HX11
    go_wp2_with fail
    go_region_held3 (fun W => Old w10 W ∧ W.cell? ⟨g9, 0, none⟩ = some (.slice Y9 x.add.length y9) ∧ W.cell? ⟨g9, 1, none⟩ = some (.slice A9 x.del.length c9) ∧ W.cell? ⟨g9, 2, none⟩ = some (.int .u64 (x.next : Int)) ∧ W.cell? ⟨g9, 3, none⟩ = some (.int .u64 (x.fl : Int)) ∧ W.cell? ⟨g11, 0, none⟩ = some (.slice Y11 x.add.length y11) ∧ W.cell? ⟨g11, 1, none⟩ = some (.slice A11 x.del.length c11) ∧ W.cell? ⟨g11, 2, none⟩ = some (.int .u64 (x.next : Int)) ∧ W.cell? ⟨g11, 3, none⟩ = some (.int .u64 (x.fl : Int)))
      (first | exact hS _ (Old.re _).dr | exact hS _ (by repeat (first | with_reducible exact Old.re _ | with_reducible assumption | with_reducible apply Old.al | with_reducible apply Old.dr | with_reducible apply Old.dn)))
      (first
        | (go_at_call 13; (with_reducible refine (edit_any2 _ (.slice Y9 x.add.length y9) A9 c9 x (HI9.out.old (by repeat (first | with_reducible exact Old.re _ | with_reducible assumption | with_reducible apply Old.al | with_reducible apply Old.dr | with_reducible apply Old.dn))) (by omega)).mono ?_); rintro r wa ⟨Za, za, rfl, oa, na⟩; have Owr : Old w10 wa := (by first | exact Owr.tr oa | exact Owr.dr.tr oa); have HUf := Lib.hid na; clear na oa)
        | (go_at_call 24; (with_reducible refine (sameEdit_any _ _ (.slice Y11 x.add.length y11) A9 A11 c9 c11 x (HUf.out.old (by repeat (first | with_reducible exact Old.re _ | with_reducible assumption | with_reducible apply Old.al | with_reducible apply Old.dr | with_reducible apply Old.dn))) (HI11.out.old (by repeat (first | with_reducible exact Old.re _ | with_reducible assumption | with_reducible apply Old.al | with_reducible apply Old.dr | with_reducible apply Old.dn))) (HS9.out.old (by repeat (first | with_reducible exact Old.re _ | with_reducible assumption | with_reducible apply Old.al | with_reducible apply Old.dr | with_reducible apply Old.dn))) (HS11.out.old (by repeat (first | with_reducible exact Old.re _ | with_reducible assumption | with_reducible apply Old.al | with_reducible apply Old.dr | with_reducible apply Old.dn))) (by omega) (by omega)).mono ?_); rintro r wg ⟨rfl, og⟩; have Owr : Old w10 wg := (by first | exact Owr.tr og | exact Owr.dr.tr og); clear og))
    rename_i hHeld
    have HBg := Lib.hid (HB10.out.old hHeld.1)
    have HOg := Lib.hid (HO10.out.tr hHeld.1)
    clear hHeld hS t0 t1 t2 t3 u0 u1 u2 u3 HUf HI9 HI11 HS9 HS11 HB10 HO10 dqq
    rcases enc_three HE.out with hf | ⟨hf, hq⟩
    case inr =>
      subst hq
      rcases hf with hf | hf
      all_goals
        subst hf
        clear HE
        go_wp2
        go_ret
        exact ⟨rfl, HOg.out⟩
    subst hf
    have CQ := Lib.hid (decode_any q (enc_len HE.out) wg)
    rw [dec_enc HE.out n1 n2] at CQ
    clear HE
    go_wp2_with fail
    refine CQ.out.mono ?_
    rintro r w12 ⟨v13, A13, c13, rfl, o12, i13, s13⟩
    obtain ⟨Y13, y13, rfl, -⟩ := i13.form
    clear CQ
    dsimp only at s13 ⊢
    go_upto_region 12 with (fail)
    have O13 := o12.al (.cells #[.slice Y13 e.add.length y13, .slice A13 e.del.length c13, .int .u64 (e.next : Int), .int .u64 (e.fl : Int)] 34)
    have HB13 := Lib.hid (HBg.out.old O13)
    have HO13 := Lib.hid (HOg.out.tr O13)
    have HX13 := Lib.hid (new_bk w12 34 #[.slice Y13 e.add.length y13, .slice A13 e.del.length c13, .int .u64 (e.next : Int), .int .u64 (e.fl : Int)])
    have HI13 := Lib.hid (i13.old (old_alloc w12 (.cells #[.slice Y13 e.add.length y13, .slice A13 e.del.length c13, .int .u64 (e.next : Int), .int .u64 (e.fl : Int)] 34)))
    have HS13 := Lib.hid (s13.old (old_alloc w12 (.cells #[.slice Y13 e.add.length y13, .slice A13 e.del.length c13, .int .u64 (e.next : Int), .int .u64 (e.fl : Int)] 34)))
    generalize w12.alloc (.cells #[.slice Y13 e.add.length y13, .slice A13 e.del.length c13, .int .u64 (e.next : Int), .int .u64 (e.fl : Int)] 34) = w13 at *
    generalize w12.heap.size = g13 at *
    clear HBg HOg O13 o12 i13 s13
    have t0 : w13.cell? ⟨g13, 0, none⟩ = some (.slice Y13 e.add.length y13) := HX13.out.cell 0
    have t1 : w13.cell? ⟨g13, 1, none⟩ = some (.slice A13 e.del.length c13) := HX13.out.cell 1
    have t2 : w13.cell? ⟨g13, 2, none⟩ = some (.int .u64 (e.next : Int)) := HX13.out.cell 2
    have t3 : w13.cell? ⟨g13, 3, none⟩ = some (.int .u64 (e.fl : Int)) := HX13.out.cell 3
    have u0 : w13.cell? ⟨g, 0, none⟩ = some (.slice Aa e.add.length ca) := HB13.out.cell 0
    have u1 : w13.cell? ⟨g, 1, none⟩ = some (.slice Ad e.del.length dc) := HB13.out.cell 1
    have u2 : w13.cell? ⟨g, 2, none⟩ = some (.int .u64 (e.next : Int)) := HB13.out.cell 2
    have u3 : w13.cell? ⟨g, 3, none⟩ = some (.int .u64 (e.fl : Int)) := HB13.out.cell 3
    have hS : ∀ W, Old w13 W → (fun W => Old w13 W ∧ W.cell? ⟨g13, 0, none⟩ = some (.slice Y13 e.add.length y13) ∧ W.cell? ⟨g13, 1, none⟩ = some (.slice A13 e.del.length c13) ∧ W.cell? ⟨g13, 2, none⟩ = some (.int .u64 (e.next : Int)) ∧ W.cell? ⟨g13, 3, none⟩ = some (.int .u64 (e.fl : Int)) ∧ W.cell? ⟨g, 0, none⟩ = some (.slice Aa e.add.length ca) ∧ W.cell? ⟨g, 1, none⟩ = some (.slice Ad e.del.length dc) ∧ W.cell? ⟨g, 2, none⟩ = some (.int .u64 (e.next : Int)) ∧ W.cell? ⟨g, 3, none⟩ = some (.int .u64 (e.fl : Int))) W := fun W q => ⟨q, cell_old t0 q, cell_old t1 q, cell_old t2 q, cell_old t3 q, cell_old u0 q, cell_old u1 q, cell_old u2 q, cell_old u3 q⟩
    dsimp only at hS
    have HAe := Lib.hid (HA.out.old HO13.out)
    have HDe := Lib.hid (HD.out.old HO13.out)
    have HX := Lib.hid (And.intro HAe.out HDe.out)
    have Ow2 := Old.re w13
    clear HX13 HB13 Owr HX
    go_wp2_with fail
    go_region_held3 (fun W => Old w13 W ∧ W.cell? ⟨g13, 0, none⟩ = some (.slice Y13 e.add.length y13) ∧ W.cell? ⟨g13, 1, none⟩ = some (.slice A13 e.del.length c13) ∧ W.cell? ⟨g13, 2, none⟩ = some (.int .u64 (e.next : Int)) ∧ W.cell? ⟨g13, 3, none⟩ = some (.int .u64 (e.fl : Int)) ∧ W.cell? ⟨g, 0, none⟩ = some (.slice Aa e.add.length ca) ∧ W.cell? ⟨g, 1, none⟩ = some (.slice Ad e.del.length dc) ∧ W.cell? ⟨g, 2, none⟩ = some (.int .u64 (e.next : Int)) ∧ W.cell? ⟨g, 3, none⟩ = some (.int .u64 (e.fl : Int)))
      (first | exact hS _ (Old.re _).dr | exact hS _ (by repeat (first | with_reducible exact Old.re _ | with_reducible assumption | with_reducible apply Old.al | with_reducible apply Old.dr | with_reducible apply Old.dn)))
      (first
        | (go_at_call 13; (with_reducible refine (edit_any2 _ (.slice Y13 e.add.length y13) A13 c13 e (HI13.out.old (by repeat (first | with_reducible exact Old.re _ | with_reducible assumption | with_reducible apply Old.al | with_reducible apply Old.dr | with_reducible apply Old.dn))) (by omega)).mono ?_); rintro r wa ⟨Za, za, rfl, oa, na⟩; (try have HI13 := Lib.hid (HI13.out.old (by first | exact oa | exact ((Old.re _).dr).tr oa))); (try have HAe := Lib.hid (HAe.out.old (by first | exact oa | exact ((Old.re _).dr).tr oa))); (try have HUz := Lib.hid (HUz.out.old (by first | exact oa | exact ((Old.re _).dr).tr oa))); (try have HUe := Lib.hid (HUe.out.old (by first | exact oa | exact ((Old.re _).dr).tr oa))); have Ow2 : Old w13 wa := (by first | exact Ow2.tr oa | exact Ow2.dr.tr oa); have HUz := Lib.hid na; clear na oa)
        | (go_at_call 13; (with_reducible refine (edit_any2 _ (.slice Aa e.add.length ca) Ad dc e (HAe.out.old (by repeat (first | with_reducible exact Old.re _ | with_reducible assumption | with_reducible apply Old.al | with_reducible apply Old.dr | with_reducible apply Old.dn))) (by omega)).mono ?_); rintro r wb ⟨Zb, zb, rfl, ob, nb⟩; (try have HI13 := Lib.hid (HI13.out.old (by first | exact ob | exact ((Old.re _).dr).tr ob))); (try have HAe := Lib.hid (HAe.out.old (by first | exact ob | exact ((Old.re _).dr).tr ob))); (try have HUz := Lib.hid (HUz.out.old (by first | exact ob | exact ((Old.re _).dr).tr ob))); (try have HUe := Lib.hid (HUe.out.old (by first | exact ob | exact ((Old.re _).dr).tr ob))); have Ow2 : Old w13 wb := (by first | exact Ow2.tr ob | exact Ow2.dr.tr ob); have HUe := Lib.hid nb; clear nb ob)
        | (go_at_call 24; (with_reducible refine (sameEdit_any _ _ _ A13 Ad c13 dc e (HUz.out.old (by repeat (first | with_reducible exact Old.re _ | with_reducible assumption | with_reducible apply Old.al | with_reducible apply Old.dr | with_reducible apply Old.dn))) (HUe.out.old (by repeat (first | with_reducible exact Old.re _ | with_reducible assumption | with_reducible apply Old.al | with_reducible apply Old.dr | with_reducible apply Old.dn))) (HS13.out.old (by repeat (first | with_reducible exact Old.re _ | with_reducible assumption | with_reducible apply Old.al | with_reducible apply Old.dr | with_reducible apply Old.dn))) (HDe.out.old (by repeat (first | with_reducible exact Old.re _ | with_reducible assumption | with_reducible apply Old.al | with_reducible apply Old.dr | with_reducible apply Old.dn))) (by omega) (by omega)).mono ?_); rintro r wg2 ⟨rfl, og⟩; have Ow2 : Old w13 wg2 := (by first | exact Ow2.tr og | exact Ow2.dr.tr og); clear og))
    all_goals
      rename_i hHeld
      have O20 := HO13.out.tr hHeld.1
      clear hHeld hS
      go_wp2
      go_ret
      exact ⟨rfl, O20⟩

set_option maxRecDepth 100000 in
theorem manifestBytes_lifted (os : Os) (started : os.Started) (H : Type) (enc : TypeId × Value → H) :
    ReturnsInHanded {} Try.checked os 4 .any (Rows.manifestBytesSpec.pre6 enc Try.prog Try.f4 Rows.manifestBytesRow.domain false) (Rows.manifestBytesSpec.post enc Try.prog Try.f4 false true false false) := by
  refine returnsInHanded_of_change_sized (C := Try.checked) Try.own started (by kernel_rfl) Try.func4
    (ChangeSpec.witness6 (enc := enc) (C := Try.checked) false ⟨#[], #[.agg #[.slice none 0 0, .slice none 0 0, .int .u64 0, .int .u64 0], .string ByteArray.empty], []⟩ 8 (by kernel_rfl) (by kernel_rfl) (by kernel_rfl) (by kernel_rfl)) ?_
  intro W base args ds gs before hval0 hW hcnd hsz0 _
  have hval : ∀ (j : Nat) t v, Try.f4.params[j]? = some t → args[j]? = some v → Value.okWide Try.prog W .any base t v := hval0
  have hW' := hW
  obtain ⟨p, q, hA0, hV, rfl, hfz, hnd⟩ := hW
  have hA : DataW.TrodAll enc Try.prog W 0 (fun _ => true) true Try.f4.params.toList args.toList ds p := hA0
  have hsz : (DataW.weightsEach Try.prog (Try.f4.params.toList ++ Rows.manifestBytesSpec.plain.varTypes Try.prog) (ds ++ gs)).all (· ≤ reachBytes) = true := hsz0
  rw [Try.params4] at hA hval hsz
  obtain ⟨v0, v1, d0, d1, p0, p1, rfl, rfl, rfl, h0, h1⟩ := trodAll_two hA
  obtain ⟨rfl, rfl⟩ := trodVars_none hV
  have hlt : ∀ x ∈ p0 ++ (p1), x.block < W.heap.size := fun x hx => hW'.lt x (by simpa using hx)
  have k0 := h0
  have k1 := h1
  obtain ⟨a0, b0, A0, c0, rfl, o0, x0, m0, y0, u0, z0⟩ := open_ed (hval 0 34 v0 rfl rfl) h0
  obtain ⟨a1, rfl, o1⟩ := open_str (hval 1 9 v1 rfl rfl) h1
  clear hA0 hval0 hsz0
  refine (law_walk a0 b0 A0 c0 a1 W o0 x0 m0 y0 u0 z0 o1).mono fun e W' ⟨he, hb⟩ => ?_
  subst he
  refine ⟨_, rfl, _, _, _, [], p0 ++ (p1), [], hW', trodAll_mk1 (shut_bool Try.underlying4 _), ?_, rfl, hb.frame _, fun h => by cases h⟩
  have r0 := Below.trod Try.laidOut (by kernel_rfl) (of_decide_eq_true (by kernel_rfl)) k0 hb (fun x hx => hlt x (by simp [hx]))
  have r1 := Below.trod Try.laidOut (by kernel_rfl) (of_decide_eq_true (by kernel_rfl)) k1 hb (fun x hx => hlt x (by simp [hx]))
  exact trodAll_mk2 r0 r1

theorem manifestBytes_holds : Rows.ManifestBytesSaid :=
  OpenClaim.holds_of_wide 4 Try.f4 rfl rfl rfl rfl rfl rfl rfl ⟨rfl, rfl, rfl, rfl, rfl⟩ rfl rfl rfl rfl rfl (by kernel_rfl) Try.func4 (by kernel_rfl)
    (of_decide_eq_true (by kernel_rfl)) (by unfold Func.isWrapper; first | (rw [if_pos (by decide +kernel)]; kernel_rfl) | (rw [if_neg (by decide +kernel)]; exact ⟨rfl, rfl⟩))
    (fun os started H enc _ => manifestBytes_lifted os started H enc)
#print axioms manifestBytes_holds
end Go.Proofs.Yteglddggjkibcaa
