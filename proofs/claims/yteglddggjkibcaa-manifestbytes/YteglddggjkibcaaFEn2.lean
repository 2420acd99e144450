/-
  Encode of the code, the whole. Conditions: lengths as written.
-/
import Derived.Test.YteglddggjkibcaaFEnc
namespace Go.Proofs.Yteglddggjkibcaa
open Go.RowKit Go.Shelf

theorem keep_old {t g : Nat} {w w1 w2 : World} (o : Old w w1) (k : KeepT t g w1 w2) (hg : w.heap.size ≤ g) : Old w w2 := by
  refine ⟨k.os.trans o.os, k.tape.trans o.tape, k.output.trans o.output, Nat.le_trans o.size k.size, fun i hi => ?_⟩
  have h1 : w1.heap[i]? = some (w1.heap[i]'(Nat.lt_of_lt_of_le hi o.size)) := Array.getElem?_eq_getElem _
  rw [k.block i _ h1 (by omega) (.inl (by omega)), ← h1]
  exact o.block i hi
set_option maxHeartbeats 4000000 in
theorem sindex_any (g : Nat) (he : ∀ args w, (callFunc g args).run Try.prog w = .ok (.enter g args) w) (p : List UInt8 → Bool) (w : World) (A : Option Addr) (cap : Nat) (l : List (List UInt8)) (h : Strs w A cap l) (hl : l.length ≤ 100000) (hf : ∀ t ∈ l, ∀ W, Calls Try.prog g #[.string (B t)] W fun e w' => e = .returned (.bool (p t)) ∧ w' = W) :
    Calls Try.prog 69 #[.slice A l.length cap, .func (.func g) #[] #[]] w fun e w' => (∃ r : Int, e = .returned (.int .i64 r) ∧ decide (0 ≤ r) = l.any p) ∧ w' = w := by
  have HI := Lib.hid h
  have HF := Lib.hid hf
  clear h hf
  go_enter Try.func69, Try.ntmps69
  go_wp2_with fail
  go_loop [8] (fun iv => ∃ k : Nat, iv = .int .i64 k ∧ k ≤ l.length ∧ Hid ((l.take k).any p = false)) (fun iv => l.length - (intOf iv).toNat)
  case atStart => exact ⟨0, rfl, Nat.zero_le _, Lib.hid (by simp)⟩
  case round =>
    obtain ⟨k, rfl, hk, HN⟩ := hrel
    by_cases hlt : k < l.length
    · obtain ⟨x, HX⟩ : ∃ x, Hid (l[k]? = some x) := ⟨l[k], Lib.hid (List.getElem?_eq_getElem hlt)⟩
      obtain ⟨hln, b, off, rfl, hx⟩ := HI.out.2 k x HX.out
      have HC := Lib.hid (HF.out x (List.mem_of_getElem? HX.out) w)
      clear hln
      go_wp2_with fail
      refine HC.out.mono ?_
      rintro e w2 ⟨rfl, hw2⟩
      have hw2 := hw2.symm
      subst hw2
      clear hx HC
      cases hp : p x with
      | false =>
        have HN2 := Lib.hid (none_step HN.out HX.out hp)
        clear hp HX HN
        go_wp2
        go_round
        case rel => exact ⟨k + 1, by go_num, by omega, HN2⟩
        case measure => simp [intOf]; omega
      | true =>
        have HA := Lib.hid (any_at HX.out hp)
        clear hp HX HN
        go_wp2
        go_ret
        exact ⟨⟨_, rfl, by rw [HA.out]; simp⟩, rfl⟩
    · obtain rfl : k = l.length := by omega
      have HE := Lib.hid (show l.any p = false by have := HN.out; rwa [List.take_length] at this)
      clear HN
      go_wp2
      go_ret
      exact ⟨⟨_, rfl, by rw [HE.out]; simp⟩, rfl⟩
set_option maxHeartbeats 1000000 in
theorem encode1_any (t : List UInt8) (w : World) :
    Calls Try.prog 43 #[.string (B t)] w fun e w' => e = .returned (.bool (!nameB 59 t)) ∧ w' = w := by
  go_enter Try.func43, Try.ntmps43
  go_wp2_with (go_at_call 44; refine (mayName_any t _).mono ?_; rintro e w1 ⟨rfl, rfl⟩)
  go_ret
  exact ⟨rfl, rfl⟩
set_option maxHeartbeats 1000000 in
theorem scontains_any (w : World) (A : Option Addr) (cap : Nat) (l : List (List UInt8)) (h : Strs w A cap l) (hl : l.length ≤ 100000) :
    Calls Try.prog 42 #[.slice A l.length cap, .func (.func 43) #[] #[]] w fun e w' => e = .returned (.bool (!(l.all (nameB 59)))) ∧ w' = w := by
  have C := sindex_any 43 (fun args w => by kernel_rfl) (fun t => !nameB 59 t) w A cap l h hl (fun t _ W => encode1_any t W)
  have hE : (l.any fun t => !nameB 59 t) = !(l.all (nameB 59)) := by rw [← not_any]; simp
  rw [hE] at C
  clear h hE
  go_enter Try.func42, Try.ntmps42
  go_wp2_with (go_at_call 69; refine C.mono ?_; rintro e w1 ⟨⟨r, rfl, hr⟩, rfl⟩)
  go_ret
  exact ⟨rfl, rfl⟩
/-- What Encode leaves. -/
def PostE (w : World) (r : Int × List UInt8) (e : Ending) (w' : World) : Prop := e = .returned (.tuple #[.string (B r.2), .int .i64 r.1]) ∧ Old w w'
theorem enc_1 {e : Ed} (h : e.add.all mayF = false ∨ e.del.all (nameB 59) = false) : encF e = (1, []) := by
  unfold encF
  rw [if_pos]
  rcases h with h | h <;> simp [h]
theorem enc_71 {e : Ed} (h1 : e.add.all mayF = true) (h2 : e.del.all (nameB 59) = true) (h : 255 < e.add.length ∨ 255 < e.del.length) : encF e = (71, []) := by
  unfold encF
  rw [if_neg (by simp [h1, h2]), if_pos h]
theorem enc_0 {e : Ed} (h1 : e.add.all mayF = true) (h2 : e.del.all (nameB 59) = true) (h3 : e.add.length ≤ 255) (h4 : e.del.length ≤ 255) : encF e = (0, encB e) := by
  unfold encF
  rw [if_neg (by simp [h1, h2]), if_neg (by omega)]
theorem flat_step {α : Type} {f : α → List UInt8} {l : List α} {k : Nat} {x : α} (hx : l[k]? = some x) (p : List UInt8) : p ++ (l.take k).flatMap f ++ f x = p ++ (l.take (k + 1)).flatMap f := by
  rw [← take_at hx, List.flatMap_append]
  simp
theorem flat_le {α : Type} {f : α → List UInt8} {n : Nat} : ∀ (l : List α), (∀ x ∈ l, (f x).length ≤ n) → (l.flatMap f).length ≤ n * l.length
  | [], _ => by simp
  | x :: l, h => by
    rw [List.flatMap_cons, List.length_append, List.length_cons]
    have h1 := h x List.mem_cons_self
    have h2 := flat_le l fun y hy => h y (List.mem_cons_of_mem _ hy)
    rw [Nat.mul_add]
    omega
set_option maxRecDepth 10000 in
set_option maxHeartbeats 8000000 in
theorem encode_any (w : World) (e : Ed) (va : Value) (Ad : Option Addr) (dc : Nat) (ha : Itms w va e.add) (hd : Strs w Ad dc e.del) (l1 : e.add.length ≤ 1000) (l2 : e.del.length ≤ 1000) (n1 : e.next < 18446744073709551616) (n2 : e.fl < 18446744073709551616) :
    Calls Try.prog 20 #[.agg #[va, .slice Ad e.del.length dc, .int .u64 (e.next : Int), .int .u64 (e.fl : Int)]] w (PostE w (encF e)) := by
  obtain ⟨Aa, ca, rfl, -⟩ := ha.form
  have HA := Lib.hid ha
  have HD := Lib.hid hd
  clear ha hd
  go_enter Try.func20, Try.ntmps20
  go_wp2_with fail
  have B1 := new_bk w 34 #[.slice Aa e.add.length ca, .slice Ad e.del.length dc, .int .u64 (e.next : Int), .int .u64 (e.fl : Int)]
  have O1 := old_alloc w (.cells #[.slice Aa e.add.length ca, .slice Ad e.del.length dc, .int .u64 (e.next : Int), .int .u64 (e.fl : Int)] 34)
  generalize w.alloc (.cells #[.slice Aa e.add.length ca, .slice Ad e.del.length dc, .int .u64 (e.next : Int), .int .u64 (e.fl : Int)] 34) = w1 at *
  refine (allMay_any w1 _ e.add (HA.out.old O1) (by omega)).mono ?_
  rintro r w2 ⟨rfl, o2⟩
  have B2 := Lib.hid (B1.old o2)
  have O2 := O1.tr o2
  obtain ⟨h, hh⟩ : ∃ h, h = w.heap.size := ⟨_, rfl⟩
  have HH := Lib.hid hh
  rw [← hh] at B2 ⊢
  clear B1 O1 o2 hh
  have a0 : w2.cell? ⟨h, 0, none⟩ = some (.slice Aa e.add.length ca) := B2.out.cell 0
  have a1 : w2.cell? ⟨h, 1, none⟩ = some (.slice Ad e.del.length dc) := B2.out.cell 1
  have a2 : w2.cell? ⟨h, 2, none⟩ = some (.int .u64 (e.next : Int)) := B2.out.cell 2
  have a3 : w2.cell? ⟨h, 3, none⟩ = some (.int .u64 (e.fl : Int)) := B2.out.cell 3
  cases m1 : e.add.all mayF with
  | false =>
    have HR := Lib.hid (enc_1 (.inl m1))
    clear m1
    go_wp2
    refine bodyPost_ret (v := .tuple #[.string (B []), .int .i64 1]) (by simp [results, Try.results20, go_sem]) rfl ?_
    rw [HR.out]
    exact ⟨rfl, O2⟩
  | true =>
    have C := Lib.hid (scontains_any w2 Ad dc e.del (HD.out.old O2) (by omega))
    cases m2 : e.del.all (nameB 59) with
    | false =>
      rw [m2] at C
      have HR := Lib.hid (enc_1 (.inr m2))
      clear m1 m2
      go_wp2_with fail
      refine C.out.mono ?_
      rintro r w3 ⟨rfl, hw3⟩
      have hw3 := hw3.symm
      subst hw3
      go_wp2
      refine bodyPost_ret (v := .tuple #[.string (B []), .int .i64 1]) (by simp [results, Try.results20, go_sem]) rfl ?_
      rw [HR.out]
      exact ⟨rfl, O2⟩
    | true =>
      rw [m2] at C
      by_cases hc1 : e.add.length ≤ 255
      case neg =>
        have HR := Lib.hid (enc_71 m1 m2 (.inl (by omega)))
        clear m1 m2
        go_wp2_with fail
        refine C.out.mono ?_
        rintro r w3 ⟨rfl, hw3⟩
        have hw3 := hw3.symm
        subst hw3
        go_wp2
        refine bodyPost_ret (v := .tuple #[.string (B []), .int .i64 71]) (by simp [results, Try.results20, go_sem]) rfl ?_
        rw [HR.out]
        exact ⟨rfl, O2⟩
      by_cases hc2 : e.del.length ≤ 255
      case neg =>
        have HR := Lib.hid (enc_71 m1 m2 (.inr (by omega)))
        clear m1 m2
        go_wp2_with fail
        refine C.out.mono ?_
        rintro r w3 ⟨rfl, hw3⟩
        have hw3 := hw3.symm
        subst hw3
        go_wp2
        refine bodyPost_ret (v := .tuple #[.string (B []), .int .i64 71]) (by simp [results, Try.results20, go_sem]) rfl ?_
        rw [HR.out]
        exact ⟨rfl, O2⟩
      have HR := Lib.hid (enc_0 m1 m2 hc1 hc2)
      have HM := Lib.hid (And.intro m1 m2)
      clear m1 m2
      have d1 : decide ((255 : Int) < (e.add.length : Int)) = false := by simp; omega
      have d2 : decide ((255 : Int) < (e.del.length : Int)) = false := by simp; omega
      go_wp2_with fail
      refine C.out.mono ?_
      rintro r w3 ⟨rfl, hw3⟩
      have hw3 := hw3.symm
      subst hw3
      clear C
      go_upto_region 6 with (fail)
      have hlt2 : h < w2.heap.size := B2.out.lt
      have hwz := O2.size
      have HB := Lib.hid (B2.out.alloc (.cells #[.slice none 0 0] 83))
      have W4 := Lib.hid (show Wr (w2.alloc (.cells #[.slice none 0 0] 83)) w2.heap.size [] from ⟨_, new_bk _ _ _, Own.nil _ _⟩)
      have O4 := O2.al (.cells #[.slice none 0 0] 83)
      generalize w2.alloc (.cells #[.slice none 0 0] 83) = w4 at *
      generalize w2.heap.size = g at *
      have hne : h ≠ g := by omega
      have K0 := KeepT.re 5 g w4
      have L4 := Lib.hid (show ([] : List UInt8).length ≤ 0 by simp)
      have hv1 : IntKind.u64.wrap (e.add.length : Int) = (e.add.length : Int) := by rw [IntKind.wrap_u64]; omega
      have hv2 : IntKind.u64.wrap (e.del.length : Int) = (e.del.length : Int) := by rw [IntKind.wrap_u64]; omega
      clear a0 a1 a2 a3 B2 O2
      have a0 : w4.cell? ⟨h, 0, none⟩ = some (.slice Aa e.add.length ca) := HB.out.cell 0
      have a1 : w4.cell? ⟨h, 1, none⟩ = some (.slice Ad e.del.length dc) := HB.out.cell 1
      have a2 : w4.cell? ⟨h, 2, none⟩ = some (.int .u64 (e.next : Int)) := HB.out.cell 2
      have a3 : w4.cell? ⟨h, 3, none⟩ = some (.int .u64 (e.fl : Int)) := HB.out.cell 3
      go_wp2_with fail
      refine (wnumber_any g _ e.next 8 (by omega) (by omega) w4 W4.out (by have := L4.out; omega)).mono ?_
      rintro r w5 ⟨⟨u, rfl⟩, wh, k1⟩
      have HB := Lib.hid (HB.out.keep k1 hne (.inr rfl))
      have K0 := K0.tr k1
      have W5 := Lib.hid wh
      have L5 := Lib.hid (show (([] : List UInt8) ++ lowN e.next 8).length ≤ 8 by rw [List.length_append, lowN_length]; have := L4.out; omega)
      clear k1 wh a0 a1 a2 a3
      have a0 : w5.cell? ⟨h, 0, none⟩ = some (.slice Aa e.add.length ca) := HB.out.cell 0
      have a1 : w5.cell? ⟨h, 1, none⟩ = some (.slice Ad e.del.length dc) := HB.out.cell 1
      have a2 : w5.cell? ⟨h, 2, none⟩ = some (.int .u64 (e.next : Int)) := HB.out.cell 2
      have a3 : w5.cell? ⟨h, 3, none⟩ = some (.int .u64 (e.fl : Int)) := HB.out.cell 3
      go_wp2_with fail
      refine (wnumber_any g _ e.fl 8 (by omega) (by omega) w5 W5.out (by have := L5.out; omega)).mono ?_
      rintro r w6 ⟨⟨u, rfl⟩, wh, k1⟩
      have HB := Lib.hid (HB.out.keep k1 hne (.inr rfl))
      have K0 := K0.tr k1
      have W6 := Lib.hid wh
      have L6 := Lib.hid (show (([] : List UInt8) ++ lowN e.next 8 ++ lowN e.fl 8).length ≤ 16 by rw [List.length_append, lowN_length]; have := L5.out; omega)
      clear k1 wh a0 a1 a2 a3
      have a0 : w6.cell? ⟨h, 0, none⟩ = some (.slice Aa e.add.length ca) := HB.out.cell 0
      have a1 : w6.cell? ⟨h, 1, none⟩ = some (.slice Ad e.del.length dc) := HB.out.cell 1
      have a2 : w6.cell? ⟨h, 2, none⟩ = some (.int .u64 (e.next : Int)) := HB.out.cell 2
      have a3 : w6.cell? ⟨h, 3, none⟩ = some (.int .u64 (e.fl : Int)) := HB.out.cell 3
      go_wp2_with fail
      refine (wnumber_any g _ e.add.length 1 (by omega) (by omega) w6 W6.out (by have := L6.out; omega)).mono ?_
      rintro r w7 ⟨⟨u, rfl⟩, wh, k1⟩
      have HB := Lib.hid (HB.out.keep k1 hne (.inr rfl))
      have K0 := K0.tr k1
      have W7 := Lib.hid wh
      have L7 := Lib.hid (show (([] : List UInt8) ++ lowN e.next 8 ++ lowN e.fl 8 ++ lowN e.add.length 1).length ≤ 17 by rw [List.length_append, lowN_length]; have := L6.out; omega)
      clear k1 wh a0 a1 a2 a3
      have a0 : w7.cell? ⟨h, 0, none⟩ = some (.slice Aa e.add.length ca) := HB.out.cell 0
      have a1 : w7.cell? ⟨h, 1, none⟩ = some (.slice Ad e.del.length dc) := HB.out.cell 1
      have a2 : w7.cell? ⟨h, 2, none⟩ = some (.int .u64 (e.next : Int)) := HB.out.cell 2
      have a3 : w7.cell? ⟨h, 3, none⟩ = some (.int .u64 (e.fl : Int)) := HB.out.cell 3
      go_wp2_with fail
      have HP := Lib.hid (show ([] : List UInt8) ++ lowN e.next 8 ++ lowN e.fl 8 ++ lowN e.add.length 1 = ([] : List UInt8) ++ lowN e.next 8 ++ lowN e.fl 8 ++ lowN e.add.length 1 from rfl)
      generalize hP : ([] : List UInt8) ++ lowN e.next 8 ++ lowN e.fl 8 ++ lowN e.add.length 1 = P at *
      clear HP W4 W5 W6 L4 L5 L6
      have HPP := Lib.hid hP
      clear hP
      have hF : ∀ k, (P ++ (e.add.take k).flatMap fileB).length ≤ 60000 := fun k => by
        have h1 := flat_le (f := fileB) (n := 200) (e.add.take k) (fun x hx => fileB_len (List.all_eq_true.1 HM.out.1 x (List.mem_of_mem_take hx)))
        have h2 : (e.add.take k).length ≤ 255 := by simp; omega
        have h3 := L7.out
        rw [List.length_append]
        omega
      have HFL := Lib.hid hF
      clear hF
      go_loopw [42] (fun i wr => ∃ k : Nat, k ≤ e.add.length ∧ i = .int .i64 k ∧ Hid (Wr wr g (P ++ (e.add.take k).flatMap fileB)) ∧ KeepT 5 g w7 wr) (fun i _ => e.add.length - (intOf i).toNat)
      case atStart => exact ⟨0, Nat.zero_le _, rfl, Lib.hid (by simpa using W7.out), KeepT.re _ _ _⟩
      case round =>
        clear W7 a0 a1 a2 a3
        obtain ⟨k, hk, rfl, HW, k1⟩ := hrel
        have K1 := K0.tr k1
        have HB1 := Lib.hid (HB.out.keep k1 hne (.inr rfl))
        have O8 := keep_old O4 K1 hwz
        have a0 : wr.cell? ⟨h, 0, none⟩ = some (.slice Aa e.add.length ca) := HB1.out.cell 0
        have a1 : wr.cell? ⟨h, 1, none⟩ = some (.slice Ad e.del.length dc) := HB1.out.cell 1
        by_cases hlt : k < e.add.length
        · obtain ⟨x, HX⟩ : ∃ x, Hid (e.add[k]? = some x) := ⟨e.add[k], Lib.hid (List.getElem?_eq_getElem hlt)⟩
          obtain ⟨b, off, rfl, hx⟩ := (HA.out.old O8).at_ HX.out
          obtain ⟨x0, x1, x2, x3, x4⟩ := hx.held
          have CF := Lib.hid (fun W (hW : Wr W g (P ++ (e.add.take k).flatMap fileB)) => wfile_any g _ x W hW (by have := HFL.out k; omega) (List.all_eq_true.1 HM.out.1 x (List.mem_of_getElem? HX.out)))
          have HEx := Lib.hid (flat_step (f := fileB) HX.out P)
          generalize P ++ (e.add.take k).flatMap fileB = Q1 at *
          clear hx
          go_wp2_with fail
          refine (CF.out _ (HW.out.al _)).mono ?_
          rintro r w9 ⟨⟨u, rfl⟩, wh, k2⟩
          rw [HEx.out] at wh
          have HW9 := Lib.hid wh
          have k3 := (k1.al _).tr k2
          clear wh k2 k1 K1 HB1 O8 HW CF HEx HX x0 x1 x2 x3 x4 a0 a1
          go_wp2
          go_roundw
          case rel => exact ⟨k + 1, by omega, by go_num, HW9, k3⟩
          case measure => simp [intOf]; omega
        · obtain rfl : k = e.add.length := by omega
          have HW8 := HW.out
          rw [List.take_length] at HW8
          have HW8 := Lib.hid HW8
          have L8 := Lib.hid (show (P ++ e.add.flatMap fileB).length ≤ 60000 by have := HFL.out e.add.length; rwa [List.take_length] at this)
          clear HW k1 HFL
          go_wp2_with fail
          refine (wnumber_any g _ e.del.length 1 (by omega) (by omega) wr HW8.out (by have := L8.out; omega)).mono ?_
          rintro r w9 ⟨⟨u, rfl⟩, wh, k1⟩
          have HB9 := Lib.hid (HB1.out.keep k1 hne (.inr rfl))
          have K9 := K1.tr k1
          have HW9 := Lib.hid wh
          have L9 := Lib.hid (show (P ++ e.add.flatMap fileB ++ lowN e.del.length 1).length ≤ 60001 by rw [List.length_append, lowN_length]; have := L8.out; omega)
          clear k1 wh HW8 L8 HB1 K1 O8 a0 a1
          have a1 : w9.cell? ⟨h, 1, none⟩ = some (.slice Ad e.del.length dc) := HB9.out.cell 1
          have HENC := Lib.hid (show P ++ e.add.flatMap fileB ++ lowN e.del.length 1 ++ e.del.flatMap short = encB e by rw [← HPP.out]; simp [encB])
          generalize P ++ e.add.flatMap fileB ++ lowN e.del.length 1 = P2 at *
          have hF : ∀ k, (P2 ++ (e.del.take k).flatMap short).length ≤ 80000 := fun k => by
            have h1 := flat_le (f := short) (n := 60) (e.del.take k) (fun x hx => by
              have h4 := List.all_eq_true.1 HM.out.2 x (List.mem_of_mem_take hx)
              unfold nameB at h4
              simp only [Bool.and_eq_true, decide_eq_true_iff] at h4
              rw [short_len]; omega)
            have h2 : (e.del.take k).length ≤ 255 := by simp; omega
            have h3 := L9.out
            rw [List.length_append]
            omega
          have HFL := Lib.hid hF
          clear hF L9
          go_wp2_with fail
          go_loopw [57] (fun i wr => ∃ k : Nat, k ≤ e.del.length ∧ i = .int .i64 k ∧ Hid (Wr wr g (P2 ++ (e.del.take k).flatMap short)) ∧ KeepT 5 g w9 wr) (fun i _ => e.del.length - (intOf i).toNat)
          case atStart => exact ⟨0, Nat.zero_le _, rfl, Lib.hid (by simpa using HW9.out), KeepT.re _ _ _⟩
          case round =>
            clear HW9 a1
            obtain ⟨k, hk, rfl, HW, k1⟩ := hrel
            have O10 := keep_old O4 (K9.tr k1) hwz
            by_cases hlt : k < e.del.length
            · obtain ⟨t, HX⟩ : ∃ t, Hid (e.del[k]? = some t) := ⟨e.del[k], Lib.hid (List.getElem?_eq_getElem hlt)⟩
              obtain ⟨hln, b, off, rfl, hx⟩ := (HD.out.old O10).2 k t HX.out
              have htl : t.length ≤ 255 := by
                have h4 := List.all_eq_true.1 HM.out.2 t (List.mem_of_getElem? HX.out)
                unfold nameB at h4
                simp only [Bool.and_eq_true, decide_eq_true_iff] at h4
                omega
              have CF := Lib.hid (fun W (hW : Wr W g (P2 ++ (e.del.take k).flatMap short)) => wtext_any g _ t W hW (by have := HFL.out k; omega) htl)
              have HEx := Lib.hid (flat_step (f := short) HX.out P2)
              generalize P2 ++ (e.del.take k).flatMap short = Q1 at *
              clear hln htl
              go_wp2_with fail
              refine (CF.out _ HW.out).mono ?_
              rintro r w11 ⟨⟨u, rfl⟩, wh, k2⟩
              rw [HEx.out] at wh
              have HW9 := Lib.hid wh
              have k3 := k1.tr k2
              clear wh k2 k1 O10 HW CF HEx HX hx
              go_wp2
              go_roundw
              case rel => exact ⟨k + 1, by omega, by go_num, HW9, k3⟩
              case measure => simp [intOf]; omega
            · obtain rfl : k = e.del.length := by omega
              have HW8 := HW.out
              rw [List.take_length, HENC.out] at HW8
              obtain ⟨v, c0, f0, -, -, hO⟩ := HW8.cs
              have hcv := run_str hO
              clear HW HW8 hO HFL
              go_wp2
              refine bodyPost_ret (v := .tuple #[.string (B (encB e)), .int .i64 0]) (by simp [results, Try.results20, go_sem]) rfl ?_
              rw [HR.out]
              exact ⟨rfl, O10⟩
end Go.Proofs.Yteglddggjkibcaa
