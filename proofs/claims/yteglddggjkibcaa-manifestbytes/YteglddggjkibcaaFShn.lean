/-
  The law's bound of an edit; the law's first case. Conditions: lengths as written.
-/
import Derived.Test.YteglddggjkibcaaFSam
namespace Go.Proofs.Yteglddggjkibcaa
open Go.RowKit

def smallE (e : Ed) : Bool := (e.del.all fun t => decide (t.length ≤ 100)) && (boundF e.add && decide (e.del.length ≤ 40))
theorem small_no {e : Ed} {k : Nat} {t : List UInt8} (hx : e.del[k]? = some t) (h : 100 < t.length) : smallE e = false := by
  unfold smallE
  have : (e.del.all fun t => decide (t.length ≤ 100)) = false := by
    rw [List.all_eq_false]
    refine ⟨t, List.mem_of_getElem? hx, ?_⟩
    simp
    omega
  rw [this]
  rfl
/-- What a bounded edit is. -/
theorem small_get {e : Ed} (h : smallE e = true) : e.add.length ≤ 40 ∧ e.del.length ≤ 40 ∧ (∀ x ∈ e.add, x.name.length ≤ 100 ∧ x.low.length ≤ 100 ∧ x.high.length ≤ 100) ∧ ∀ t ∈ e.del, t.length ≤ 100 := by
  unfold smallE boundF at h
  simp only [Bool.and_eq_true, decide_eq_true_iff, List.all_eq_true] at h
  obtain ⟨h1, ⟨h2, h3⟩, h4⟩ := h
  refine ⟨h3, h4, fun x hx => ?_, fun t ht => h1 t ht⟩
  have := h2 x hx
  unfold smallI at this
  simp only [Bool.and_eq_true, decide_eq_true_iff] at this
  exact this
set_option maxRecDepth 10000 in
set_option maxHeartbeats 4000000 in
theorem small_any (w : World) (va : Value) (Ad : Option Addr) (dc : Nat) (e : Ed) (ha : Itms w va e.add) (hd : Strs w Ad dc e.del) (h1 : e.add.length ≤ maxLen) (h2 : e.del.length ≤ maxLen) :
    Calls Try.prog 10 #[.agg #[va, .slice Ad e.del.length dc, .int .u64 (e.next : Int), .int .u64 (e.fl : Int)]] w fun r w' => r = .returned (.bool (smallE e)) ∧ Old w w' := by
  have hm : e.del.length ≤ 9223372036854775807 := by unfold maxLen at h2; omega
  obtain ⟨Aa, ca, rfl, -⟩ := ha.form
  have HA := Lib.hid ha
  have HD := Lib.hid hd
  have H1 := Lib.hid h1
  clear ha hd h1 h2
  go_enter Try.func10, Try.ntmps10
  go_wp2_with fail
  have B1 := new_bk w 34 #[.slice Aa e.add.length ca, .slice Ad e.del.length dc, .int .u64 (e.next : Int), .int .u64 (e.fl : Int)]
  have O1 := old_alloc w (.cells #[.slice Aa e.add.length ca, .slice Ad e.del.length dc, .int .u64 (e.next : Int), .int .u64 (e.fl : Int)] 34)
  generalize w.alloc (.cells #[.slice Aa e.add.length ca, .slice Ad e.del.length dc, .int .u64 (e.next : Int), .int .u64 (e.fl : Int)] 34) = w1 at *
  have a0 : w1.cell? ⟨w.heap.size, 0, none⟩ = some (.slice Aa e.add.length ca) := B1.cell 0
  have a1 : w1.cell? ⟨w.heap.size, 1, none⟩ = some (.slice Ad e.del.length dc) := B1.cell 1
  obtain ⟨h, hh⟩ : ∃ h, h = w.heap.size := ⟨_, rfl⟩
  rw [← hh] at a0 a1 ⊢
  clear hh B1
  go_loop [3] (fun iv => ∃ k : Nat, iv = .int .i64 k ∧ k ≤ e.del.length ∧ Hid (∀ t ∈ e.del.take k, t.length ≤ 100)) (fun iv => e.del.length - (intOf iv).toNat)
  case atStart => exact ⟨0, rfl, Nat.zero_le _, Lib.hid (by simp)⟩
  case round =>
    obtain ⟨k, rfl, hk, HB⟩ := hrel
    by_cases hlt : k < e.del.length
    · obtain ⟨t, HX⟩ : ∃ t, Hid (e.del[k]? = some t) := ⟨e.del[k], Lib.hid (List.getElem?_eq_getElem hlt)⟩
      obtain ⟨hln, b, off, rfl, hx⟩ := (HD.out.old O1).2 k t HX.out
      clear hln
      by_cases hs : t.length ≤ 100
      · have HB2 : Hid (∀ t ∈ e.del.take (k + 1), t.length ≤ 100) := Lib.hid (by
          rw [← take_at HX.out]
          intro c hc
          rcases List.mem_append.1 hc with hc | hc
          · exact HB.out c hc
          · rw [List.mem_singleton.1 hc]; exact hs)
        clear HB HX
        go_wp2
        go_round
        case rel => exact ⟨k + 1, by go_num, by omega, HB2⟩
        case measure => simp [intOf]; omega
      · have HR := Lib.hid (small_no HX.out (by omega))
        clear HB HX
        go_wp2
        go_ret
        exact ⟨ret_bool HR.out.symm, O1⟩
    · obtain rfl : k = e.del.length := by omega
      have HE := Lib.hid (show smallE e = (boundF e.add && decide (e.del.length ≤ 40)) by
        have := HB.out
        rw [List.take_length] at this
        unfold smallE
        rw [List.all_eq_true.2 fun t ht => by simp [this t ht]]
        rfl)
      clear HB
      have C := bounded_any w1 _ e.add (HA.out.old O1) H1.out
      cases hb : boundF e.add with
      | false =>
        rw [hb] at HE C
        clear hb
        go_wp2_with fail
        refine C.mono ?_
        rintro r w2 ⟨rfl, hw2⟩
        have hw2 := hw2.symm
        subst hw2
        clear C
        go_wp2
        go_ret
        exact ⟨ret_bool (by rw [HE.out]; simp), O1⟩
      | true =>
        rw [hb] at HE C
        clear hb
        by_cases h40 : e.del.length ≤ 40
        · go_wp2_with fail
          refine C.mono ?_
          rintro r w2 ⟨rfl, hw2⟩
          have hw2 := hw2.symm
          subst hw2
          clear C
          go_wp2
          go_ret
          exact ⟨ret_bool (by rw [HE.out]; simp [h40]; try omega), O1⟩
        · go_wp2_with fail
          refine C.mono ?_
          rintro r w2 ⟨rfl, hw2⟩
          have hw2 := hw2.symm
          subst hw2
          clear C
          go_wp2
          go_ret
          exact ⟨ret_bool (by rw [HE.out]; simp [h40]; try omega), O1⟩

/-- The file of the law's first case. -/
def f1 : Itm := ⟨1, [116, 49], [97], [109], 3⟩
def e1 : Ed := ⟨[f1], [], 2, 0⟩
theorem crs_one (x : Itm) : crossL [x] = false := by
  rw [← Bool.not_eq_true, crossL_iff]
  rintro ⟨i, k, a, b, h, h1, h2, -⟩
  have := (List.getElem?_eq_some_iff.1 h1).1
  simp at this
  omega
theorem show_1 : apF St0 e1 = (0, ⟨[f1], 2, 0⟩) := by
  rw [apR_2 (by decide) (by decide) (by decide)]
  show (if crossL [f1] = true then _ else _) = _
  rw [crs_one]
  rfl
theorem show_2 : apF ⟨[f1], 2, 0⟩ e1 = (4, St0) := by
  rw [apR_2 (by decide) (by decide) (by decide)]
  rfl
theorem good_1 : Good ⟨[f1], 2, 0⟩ := ⟨List.pairwise_singleton _ _, by simp [Once], fun x hx => by rw [List.mem_singleton.1 hx]; decide, fun h => by
  have := (crossL_iff [f1]).2 h
  rw [crs_one] at this
  cases this⟩
set_option maxRecDepth 10000 in
set_option maxHeartbeats 4000000 in
theorem shown_any (w : World) : Calls Try.prog 9 #[] w fun r w' => r = .returned (.bool true) ∧ Old w w' := by
  go_enter Try.func9, Try.ntmps9
  go_wp2_with fail
  have B0 := Lib.hid ((new_bk w 60 (icells f1)).alloc (.cells (icells f1) 60))
  have hb := new_bk1 w (.cells (icells f1) 60) 60 (icells f1)
  have O1 := ((Old.re w).al (.cells (icells f1) 60)).al (.cells (icells f1) 60)
  refine Calls.mono (apply_any ((w.alloc (.cells (icells f1) 60)).alloc (.cells (icells f1) 60)) St0 e1 good0 (.slice none 0 0) (.slice (some ⟨w.heap.size + 1, 0, none⟩) 1 1) none 0 (Itms.nil _) (one_its hb) (Strs.none _) (by simp) (by simp [e1]) (by simp [e1]) (by simp) (by simp [e1, f1]) (by simp [e1])) ?_
  rw [show_1]
  rintro r w2 ⟨v, rfl, o2, n2⟩
  obtain ⟨A2, c2, rfl, -⟩ : ∃ A c, v = .slice A 1 c ∧ 1 ≤ c := n2.form
  have B0 := Lib.hid (B0.out.old o2)
  have O2 := O1.tr o2
  have HV := Lib.hid n2.its
  clear hb O1 o2 n2
  go_upto_region 3 with (fail)
  have B3 := Lib.hid (B0.out.alloc (.cells #[.slice A2 1 c2, .int .u64 2, .int .u64 0] 27))
  have T3 := Lib.hid (new_bk w2 27 #[.slice A2 1 c2, .int .u64 2, .int .u64 0])
  have O3 := O2.al (.cells #[.slice A2 1 c2, .int .u64 2, .int .u64 0] 27)
  have HV3 := Lib.hid (HV.out.old (old_alloc w2 (.cells #[.slice A2 1 c2, .int .u64 2, .int .u64 0] 27)))
  generalize w2.alloc (.cells #[.slice A2 1 c2, .int .u64 2, .int .u64 0] 27) = w3 at *
  generalize w2.heap.size = g2 at *
  obtain ⟨h, hh⟩ : ∃ h, h = w.heap.size := ⟨_, rfl⟩
  rw [← hh] at B3 ⊢
  clear hh B0 HV O2
  obtain ⟨x0, x1, x2, x3, x4⟩ := B3.out.five
  have t0 : w3.cell? ⟨g2, 0, none⟩ = some (.slice A2 1 c2) := T3.out.cell 0
  have t1 : w3.cell? ⟨g2, 1, none⟩ = some (.int .u64 2) := T3.out.cell 1
  have t2 : w3.cell? ⟨g2, 2, none⟩ = some (.int .u64 0) := T3.out.cell 2
  go_wp2_with fail
  have hb := new_bk w3 60 (icells f1)
  have O4 := old_alloc w3 (.cells (icells f1) 60)
  refine Calls.mono (apply_any (w3.alloc (.cells (icells f1) 60)) ⟨[f1], 2, 0⟩ e1 good_1 (.slice A2 1 c2) (.slice (some ⟨w3.heap.size, 0, none⟩) 1 1) none 0 (HV3.out.old O4) (one_its hb) (Strs.none _) (by simp) (by simp [e1]) (by simp [e1]) (by simp [f1]) (by simp [e1, f1]) (by simp [e1])) ?_
  rw [show_2]
  rintro r w5 ⟨v5, rfl, o5, n5⟩
  obtain ⟨A5, c5, rfl, -⟩ : ∃ A c, v5 = .slice A 0 c ∧ 0 ≤ c := n5.form
  have o5 := O4.tr o5
  clear n5 hb O4 x0 x1 x2 x3 x4 t0 t1 t2
  go_upto_region 4 with (fail)
  have o6 := o5.al (.cells #[.slice A5 0 c5, .int .u64 0, .int .u64 0] 27)
  generalize w5.alloc (.cells #[.slice A5 0 c5, .int .u64 0, .int .u64 0] 27) = w6 at *
  have t0 : w6.cell? ⟨g2, 0, none⟩ = some (.slice A2 1 c2) := (T3.out.old o6).cell 0
  have t1 : w6.cell? ⟨g2, 1, none⟩ = some (.int .u64 2) := (T3.out.old o6).cell 1
  have t2 : w6.cell? ⟨g2, 2, none⟩ = some (.int .u64 0) := (T3.out.old o6).cell 2
  have O6 := O3.tr o6
  have HV6 := Lib.hid (HV3.out.old o6)
  clear o5
  go_wp2_with fail
  refine Calls.mono (find_code w6 (.slice A2 1 c2) ⟨[f1], 2, 0⟩ [98] HV6.out (by simp)) ?_
  rintro r w7 ⟨u, rfl, n7, o7⟩
  obtain ⟨A7, c7, rfl, -⟩ : ∃ A c, u = .slice A 1 c ∧ 1 ≤ c := n7.form
  have O7 := O6.tr o7
  clear n7
  go_wp2
  go_ret
  exact ⟨rfl, O7⟩
end Go.Proofs.Yteglddggjkibcaa
