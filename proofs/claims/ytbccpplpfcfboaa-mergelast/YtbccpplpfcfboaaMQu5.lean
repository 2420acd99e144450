/-
  The queue of lists that wait: the heap's down, Pop, wait. Conditions: lengths as written.
-/
import Derived.Test.YtbccpplpfcfboaaMQu4
namespace Go.Proofs.Ytbccpplpfcfboaa
open Go.RowKit

set_option maxHeartbeats 8000000 in
set_option maxRecDepth 20000 in
theorem down_any (W0 w : World) (gq : Nat) (ws : List Wt) (h : Que W0 gq ws w) (n : Nat) (hn : ws.length = n + 1) (hl : ws.length ≤ 100000) (hu : DownF (fun k => ws[k]?) 0 n) :
    Calls Try.prog 64 #[qh gq, .int .i64 0, .int .i64 (n : Int)] w fun e w' => (∃ u, e = .returned u) ∧ ∃ ws', ws'.Perm ws ∧ ws'[n]? = ws[n]? ∧ HeapF (fun k => ws'[k]?) n ∧ Que W0 gq ws' w' ∧ Kq gq w w' := by
  have HU := Lib.hid (And.intro hu hn)
  have HQ := Lib.hid h
  have hn2 : n ≤ 100000 := by omega
  clear hu h hn hl
  go_enter Try.func64, Try.ntmps64
  go_wp2_with fail
  go_loopw [7] (fun iv wr => ∃ (i : Nat) (vs : List Wt), iv = .int .i64 i ∧ n < vs.length ∧ vs.length ≤ n + 1 ∧ i ≤ n ∧ Hid (vs.Perm ws ∧ vs[n]? = ws[n]? ∧ DownF (fun k => vs[k]?) i n ∧ Kq gq w wr) ∧ Hid (Que W0 gq vs wr)) (fun iv _ => 2 * n + 2 - 2 * (intOf iv).toNat)
  case atStart => exact ⟨0, ws, rfl, by have := HU.out.2; omega, by have := HU.out.2; omega, by omega, Lib.hid ⟨List.Perm.refl _, rfl, HU.out.1, Kq.re _ _⟩, HQ⟩
  case round =>
    obtain ⟨i, vs, rfl, hv1, hv2, hin, HP, HV⟩ := hrel
    obtain ⟨j1, hj1⟩ : ∃ j1 : Nat, 2 * (i : Int) + 1 = (j1 : Int) := ⟨2 * i + 1, by omega⟩
    by_cases h1 : n ≤ j1
    · have HF : Hid (HeapF (fun k => vs[k]?) n) := Lib.hid (down_stop HP.out.2.2.1 fun k k0 k1 k2 => by omega)
      go_wp2_with fail
      go_ret
      exact ⟨⟨_, rfl⟩, vs, HP.out.1, HP.out.2.1, HF.out, HV.out, HP.out.2.2.2⟩
    · obtain ⟨j2, hj2⟩ : ∃ j2 : Nat, (j1 : Int) + 1 = (j2 : Int) := ⟨j1 + 1, by omega⟩
      have hg1 : ¬ (n : Int) ≤ (j1 : Int) := by omega
      have hg2 : ¬ (j1 : Int) < 0 := by omega
      obtain ⟨A, cap, hb, -⟩ := HV.out.at_
      by_cases h2 : j2 < n
      · obtain ⟨p, hp⟩ : ∃ p, vs[j2]? = some p := ⟨_, List.getElem?_eq_getElem (by omega)⟩
        obtain ⟨q, hq⟩ : ∃ q, vs[j1]? = some q := ⟨_, List.getElem?_eq_getElem (by omega)⟩
        have HPQ := Lib.hid (And.intro hp hq)
        clear hp hq
        have c0 := hb.cell 0
        simp only [List.getElem?_toArray, List.getElem?_cons_zero] at c0
        have hm := meth_less wr gq _ c0
        have C := qless_q W0 wr gq _ vs HV.out hb j2 j1 (j2 : Int) (j1 : Int) rfl rfl p q HPQ.out.1 HPQ.out.2
        go_wp2_with fail
        refine C.mono ?_
        clear C
        rintro e w2 ⟨rfl, o2⟩
        have HP0 := HP
        have HV0 := HV
        clear HP HV
        have HV : Hid (Que W0 gq vs w2) := Lib.hid (HV0.out.old_ o2)
        have HP : Hid (vs.Perm ws ∧ vs[n]? = ws[n]? ∧ DownF (fun k => vs[k]?) i n ∧ Kq gq w w2) := Lib.hid ⟨HP0.out.1, HP0.out.2.1, HP0.out.2.2.1, HP0.out.2.2.2.tr (Kq.of_old o2 hb.lt)⟩
        have hb := hb.old o2
        clear HV0 HP0 c0 hm o2
        by_cases hlt : wcmp p q < 0
        · have HC : Hid (∀ k, 0 < k → k < n → (k - 1) / 2 = i → wleO (vs[j2]?) (vs[k]?)) := Lib.hid fun k k0 k1 k2 => by
            rcases (show k = j1 ∨ k = j2 by omega) with rfl | rfl
            · exact .mk HPQ.out.1 HPQ.out.2 (by omega)
            · exact .mk HPQ.out.1 HPQ.out.1 (by have := wcmp_neg p p; omega)
          have hdec : decide (wcmp p q < 0) = true := by simpa using hlt
          rw [hdec]
          clear hdec hlt
          have HW := Lib.hid (And.intro (show (j2 - 1) / 2 = i by omega) (show j2 < n by omega))
          have hjl : j2 < vs.length := by omega
          obtain ⟨a, ha⟩ : ∃ a, vs[j2]? = some a := ⟨_, List.getElem?_eq_getElem hjl⟩
          obtain ⟨b, hib⟩ : ∃ b, vs[i]? = some b := ⟨_, List.getElem?_eq_getElem (by omega)⟩
          have HA := Lib.hid (And.intro ha hib)
          clear ha hib
          have c0 := hb.cell 0
          simp only [List.getElem?_toArray, List.getElem?_cons_zero] at c0
          have hm := meth_less w2 gq _ c0
          have C := qless_q W0 w2 gq _ vs HV.out hb j2 i (j2 : Int) (i : Int) rfl rfl a b HA.out.1 HA.out.2
          go_wp2_with fail
          refine C.mono ?_
          clear C
          rintro e w3 ⟨rfl, o3⟩
          have hb3 := hb.old o3
          have c3 := hb3.cell 0
          simp only [List.getElem?_toArray, List.getElem?_cons_zero] at c3
          clear c0 hm
          by_cases hlt : wcmp a b < 0
          · have hdec : decide (wcmp a b < 0) = true := by simpa using hlt
            rw [hdec]
            clear hdec
            have HL := Lib.hid hlt
            clear hlt
            have hm3 := meth_swap w3 gq _ c3
            have C := qswap_any W0 w3 gq _ vs (HV.out.old_ o3) hb3 i j2 (i : Int) (j2 : Int) rfl rfl (by omega) hjl
            go_wp2_with fail
            refine C.mono ?_
            clear C
            rintro e w4 ⟨⟨u, rfl⟩, q4, k4⟩
            have HF : Hid ((swp vs i j2).Perm ws ∧ (swp vs i j2)[n]? = ws[n]? ∧ DownF (fun k => (swp vs i j2)[k]?) j2 n ∧ Kq gq w w4) := Lib.hid ⟨(swp_perm vs i j2).trans HP.out.1, by
              have := congrFun (swp_at (l := vs) (i := i) (j := j2) (by omega) hjl) n
              rw [this, swF_o _ (by omega) (by omega)]
              exact HP.out.2.1, by
              rw [swp_at (by omega) hjl]
              exact down_step HP.out.2.2.1 HW.out.1 (by omega) HW.out.2 HA.out.1 HA.out.2 HL.out HC.out, (HP.out.2.2.2.tr (Kq.of_old o3 hb.lt)).tr k4⟩
            have HQ4 := Lib.hid q4
            have hl4 := swp_len vs i j2
            have HX := Lib.hid (And.intro hjl (And.intro hj1 hl4))
            clear q4 k4 c3 hm3 hb hb3 o3 HP HV hj1 hl4
            go_wp2
            go_round
            case rel =>
              obtain ⟨x1, x2, x3⟩ := HX.out
              exact ⟨j2, swp vs i j2, by go_num, by omega, by omega, by omega, HF, HQ4⟩
            case measure => have := HX.out; simp [intOf]; omega
          · have hdec : decide (wcmp a b < 0) = false := by simpa using hlt
            rw [hdec]
            clear hdec c3
            have HF : Hid (HeapF (fun k => vs[k]?) n) := Lib.hid (down_stop HP.out.2.2.1 fun k k0 k1 k2 => .tr HA.out.1 (.mk HA.out.2 HA.out.1 (by have := wcmp_neg a b; omega)) (HC.out k k0 k1 k2))
            clear hlt
            go_wp2
            go_ret
            exact ⟨⟨_, rfl⟩, vs, HP.out.1, HP.out.2.1, HF.out, HV.out.old_ o3, HP.out.2.2.2.tr (Kq.of_old o3 hb.lt)⟩
        · have HC : Hid (∀ k, 0 < k → k < n → (k - 1) / 2 = i → wleO (vs[j1]?) (vs[k]?)) := Lib.hid fun k k0 k1 k2 => by
            rcases (show k = j1 ∨ k = j2 by omega) with rfl | rfl
            · exact .mk HPQ.out.2 HPQ.out.2 (by have := wcmp_neg q q; omega)
            · exact .mk HPQ.out.2 HPQ.out.1 (by have := wcmp_neg p q; omega)
          have hdec : decide (wcmp p q < 0) = false := by simpa using hlt
          rw [hdec]
          clear hdec hlt
          have HW := Lib.hid (And.intro (show (j1 - 1) / 2 = i by omega) (show j1 < n by omega))
          have hjl : j1 < vs.length := by omega
          obtain ⟨a, ha⟩ : ∃ a, vs[j1]? = some a := ⟨_, List.getElem?_eq_getElem hjl⟩
          obtain ⟨b, hib⟩ : ∃ b, vs[i]? = some b := ⟨_, List.getElem?_eq_getElem (by omega)⟩
          have HA := Lib.hid (And.intro ha hib)
          clear ha hib
          have c0 := hb.cell 0
          simp only [List.getElem?_toArray, List.getElem?_cons_zero] at c0
          have hm := meth_less w2 gq _ c0
          have C := qless_q W0 w2 gq _ vs HV.out hb j1 i (j1 : Int) (i : Int) rfl rfl a b HA.out.1 HA.out.2
          go_wp2_with fail
          refine C.mono ?_
          clear C
          rintro e w3 ⟨rfl, o3⟩
          have hb3 := hb.old o3
          have c3 := hb3.cell 0
          simp only [List.getElem?_toArray, List.getElem?_cons_zero] at c3
          clear c0 hm
          by_cases hlt : wcmp a b < 0
          · have hdec : decide (wcmp a b < 0) = true := by simpa using hlt
            rw [hdec]
            clear hdec
            have HL := Lib.hid hlt
            clear hlt
            have hm3 := meth_swap w3 gq _ c3
            have C := qswap_any W0 w3 gq _ vs (HV.out.old_ o3) hb3 i j1 (i : Int) (j1 : Int) rfl rfl (by omega) hjl
            go_wp2_with fail
            refine C.mono ?_
            clear C
            rintro e w4 ⟨⟨u, rfl⟩, q4, k4⟩
            have HF : Hid ((swp vs i j1).Perm ws ∧ (swp vs i j1)[n]? = ws[n]? ∧ DownF (fun k => (swp vs i j1)[k]?) j1 n ∧ Kq gq w w4) := Lib.hid ⟨(swp_perm vs i j1).trans HP.out.1, by
              have := congrFun (swp_at (l := vs) (i := i) (j := j1) (by omega) hjl) n
              rw [this, swF_o _ (by omega) (by omega)]
              exact HP.out.2.1, by
              rw [swp_at (by omega) hjl]
              exact down_step HP.out.2.2.1 HW.out.1 (by omega) HW.out.2 HA.out.1 HA.out.2 HL.out HC.out, (HP.out.2.2.2.tr (Kq.of_old o3 hb.lt)).tr k4⟩
            have HQ4 := Lib.hid q4
            have hl4 := swp_len vs i j1
            have HX := Lib.hid (And.intro hjl (And.intro hj1 hl4))
            clear q4 k4 c3 hm3 hb hb3 o3 HP HV hj1 hl4
            go_wp2
            go_round
            case rel =>
              obtain ⟨x1, x2, x3⟩ := HX.out
              exact ⟨j1, swp vs i j1, by go_num, by omega, by omega, by omega, HF, HQ4⟩
            case measure => have := HX.out; simp [intOf]; omega
          · have hdec : decide (wcmp a b < 0) = false := by simpa using hlt
            rw [hdec]
            clear hdec c3
            have HF : Hid (HeapF (fun k => vs[k]?) n) := Lib.hid (down_stop HP.out.2.2.1 fun k k0 k1 k2 => .tr HA.out.1 (.mk HA.out.2 HA.out.1 (by have := wcmp_neg a b; omega)) (HC.out k k0 k1 k2))
            clear hlt
            go_wp2
            go_ret
            exact ⟨⟨_, rfl⟩, vs, HP.out.1, HP.out.2.1, HF.out, HV.out.old_ o3, HP.out.2.2.2.tr (Kq.of_old o3 hb.lt)⟩
      · have HC : Hid (∀ k, 0 < k → k < n → (k - 1) / 2 = i → wleO (vs[j1]?) (vs[k]?)) := Lib.hid fun k k0 k1 k2 => by
          obtain rfl : k = j1 := by omega
          obtain ⟨p, hp⟩ : ∃ p, vs[k]? = some p := ⟨_, List.getElem?_eq_getElem (by omega)⟩
          exact .mk hp hp (by have := wcmp_neg p p; omega)
        have HW := Lib.hid (And.intro (show (j1 - 1) / 2 = i by omega) (show j1 < n by omega))
        have hjl : j1 < vs.length := by omega
        obtain ⟨a, ha⟩ : ∃ a, vs[j1]? = some a := ⟨_, List.getElem?_eq_getElem hjl⟩
        obtain ⟨b, hib⟩ : ∃ b, vs[i]? = some b := ⟨_, List.getElem?_eq_getElem (by omega)⟩
        have HA := Lib.hid (And.intro ha hib)
        clear ha hib
        have c0 := hb.cell 0
        simp only [List.getElem?_toArray, List.getElem?_cons_zero] at c0
        have hm := meth_less wr gq _ c0
        have C := qless_q W0 wr gq _ vs HV.out hb j1 i (j1 : Int) (i : Int) rfl rfl a b HA.out.1 HA.out.2
        go_wp2_with fail
        refine C.mono ?_
        clear C
        rintro e w3 ⟨rfl, o3⟩
        have hb3 := hb.old o3
        have c3 := hb3.cell 0
        simp only [List.getElem?_toArray, List.getElem?_cons_zero] at c3
        clear c0 hm
        by_cases hlt : wcmp a b < 0
        · have hdec : decide (wcmp a b < 0) = true := by simpa using hlt
          rw [hdec]
          clear hdec
          have HL := Lib.hid hlt
          clear hlt
          have hm3 := meth_swap w3 gq _ c3
          have C := qswap_any W0 w3 gq _ vs (HV.out.old_ o3) hb3 i j1 (i : Int) (j1 : Int) rfl rfl (by omega) hjl
          go_wp2_with fail
          refine C.mono ?_
          clear C
          rintro e w4 ⟨⟨u, rfl⟩, q4, k4⟩
          have HF : Hid ((swp vs i j1).Perm ws ∧ (swp vs i j1)[n]? = ws[n]? ∧ DownF (fun k => (swp vs i j1)[k]?) j1 n ∧ Kq gq w w4) := Lib.hid ⟨(swp_perm vs i j1).trans HP.out.1, by
            have := congrFun (swp_at (l := vs) (i := i) (j := j1) (by omega) hjl) n
            rw [this, swF_o _ (by omega) (by omega)]
            exact HP.out.2.1, by
            rw [swp_at (by omega) hjl]
            exact down_step HP.out.2.2.1 HW.out.1 (by omega) HW.out.2 HA.out.1 HA.out.2 HL.out HC.out, (HP.out.2.2.2.tr (Kq.of_old o3 hb.lt)).tr k4⟩
          have HQ4 := Lib.hid q4
          have hl4 := swp_len vs i j1
          have HX := Lib.hid (And.intro hjl (And.intro hj1 hl4))
          clear q4 k4 c3 hm3 hb hb3 o3 HP HV hj1 hl4
          go_wp2
          go_round
          case rel =>
            obtain ⟨x1, x2, x3⟩ := HX.out
            exact ⟨j1, swp vs i j1, by go_num, by omega, by omega, by omega, HF, HQ4⟩
          case measure => have := HX.out; simp [intOf]; omega
        · have hdec : decide (wcmp a b < 0) = false := by simpa using hlt
          rw [hdec]
          clear hdec c3
          have HF : Hid (HeapF (fun k => vs[k]?) n) := Lib.hid (down_stop HP.out.2.2.1 fun k k0 k1 k2 => .tr HA.out.1 (.mk HA.out.2 HA.out.1 (by have := wcmp_neg a b; omega)) (HC.out k k0 k1 k2))
          clear hlt
          go_wp2
          go_ret
          exact ⟨⟨_, rfl⟩, vs, HP.out.1, HP.out.2.1, HF.out, HV.out.old_ o3, HP.out.2.2.2.tr (Kq.of_old o3 hb.lt)⟩
end Go.Proofs.Ytbccpplpfcfboaa
