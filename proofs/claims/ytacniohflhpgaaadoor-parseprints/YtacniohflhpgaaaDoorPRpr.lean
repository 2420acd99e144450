/-
  Print of the reference. Conditions: lengths as written.
-/
import Derived.Test.YtacniohflhpgaaaDoorPPrt
import Derived.Test.YtacniohflhpgaaaDoorPRln
namespace Go.Proofs.YtacniohflhpgaaaDoor
open Go.RowKit

theorem neq_ne (a b : Cel) (h : a ≠ b) (w : World) : (binOp .neq 33 (cv a) (cv b)).run Tryd.prog w = .ok (.bool true) w := by
  go_simp
  intro e1 e2 e3 e4 e5 e6
  apply h
  obtain ⟨r1, c1, t1, s1, d1, v1⟩ := a
  obtain ⟨r2, c2, t2, s2, d2, v2⟩ := b
  simp only at e1 e2 e3 e4 e5 e6
  have e3' : t1 = t2 := by omega
  have e4' : s1 = s2 := by omega
  subst e1 e2 e3' e4' e5 e6
  rfl
theorem neq_eq (c : Cel) (w : World) : (binOp .neq 33 (cv c) (cv c)).run Tryd.prog w = .ok (.bool false) w := by
  go_simp
theorem rb_len (c : Cel) (h : c.sm) : (rbody c).length ≤ 4000 := by
  have := dec_len c.ts h.1
  obtain ⟨-, h1, h2, h3⟩ := h
  unfold rbody
  split <;> simp <;> omega
theorem told_row {c : Cel} (h : toldB c = true) : 0 < c.row.length ∧ c.row.head? ≠ some 35 := by
  simp only [toldB, Bool.and_eq_true, Bool.not_eq_true', decide_eq_true_eq] at h
  obtain ⟨⟨⟨⟨⟨⟨h1, h2⟩, h3⟩, h4⟩, h5⟩, h6⟩, h7⟩ := h
  have hne : c.row ≠ [] := by intro e; rw [e] at h1; simp [nameB, wordB] at h1
  refine ⟨List.length_pos_iff.2 hne, ?_⟩
  intro e
  rw [nothing, e] at h2
  simp at h2

set_option maxHeartbeats 8000000 in
theorem rprint_at (b off cap : Nat) (l : List Cel) (w : World) (h : CelsAt w b off l) (hml : l.length ≤ 1000) (hsm : ∀ c ∈ l, c.sm) :
    Calls Tryd.prog 17 #[.slice (some ⟨b, off, none⟩) l.length cap] w fun e w' => e = .returned (.tuple #[.string (B (printS l)), .int .i64 (printE l : Nat)]) ∧ Old w w' := by
  obtain ⟨S, hS⟩ : ∃ S, S = printS l := ⟨_, rfl⟩
  obtain ⟨E, hE⟩ : ∃ E, E = printE l := ⟨_, rfl⟩
  rw [← hS, ← hE]
  have HS := Lib.hid hS
  have HE := Lib.hid hE
  clear hS hE
  go_enter Tryd.func17, Tryd.ntmps17
  go_wp2_with fail
  go_loopw [4, 5] (fun o i wr => ∃ k : Nat, k ≤ l.length ∧ i = .int .i64 k ∧ o = .string (B (printL (l.take k))) ∧ Old w wr ∧ Hid ((l.take k).all toldB = true)) (fun _ i _ => l.length - (intOf i).toNat)
  case atStart => exact ⟨0, Nat.zero_le _, rfl, rfl, Old.re _, Lib.hid rfl⟩
  case round =>
    obtain ⟨k, hk, rfl, rfl, ho, HA⟩ := hrel
    by_cases hlt : k < l.length
    · obtain ⟨a0, a1, a2, a3, a4, a5⟩ := ((h.at_ k hlt).old ho).held
      have hc := hsm l[k] (List.getElem_mem hlt)
      have HT := Lib.hid (List.take_succ_eq_append_getElem hlt)
      have HM := Lib.hid (fun (e : toldB l[k] = false) => (show l.all toldB = false by
        rw [List.all_eq_false]; exact ⟨l[k], List.getElem_mem hlt, by simp [e]⟩))
      have hpl := print_len (l.take k) (fun c hc => hsm c (List.mem_of_mem_take hc))
      have htl : (l.take k).length ≤ 1000 := by rw [List.length_take]; omega
      have hI : (k : Int) < (l.length : Int) := by omega
      generalize l[k] = c at *
      have hts := hc.1
      have h1 := hc.2.1
      have h2 := hc.2.2.1
      have h3 := hc.2.2.2
      have hrl := rb_len c hc
      have dl := dec_len c.ts hts
      have C := rdec_any c.ts hts
      have HRB := Lib.hid (show rbody c = c.row ++ [32] ++ c.col ++ [32] ++ Lib.decDigits c.ts ++ [32] ++ ((if c.del then [45] else [61]) ++ c.val) by unfold rbody; split <;> simp)
      have hw1 : Bk (wr.alloc (.cells (cells c) 33)) wr.heap.size 33 (cells c) := new_bk _ _ _
      have o1 := old_alloc wr (.cells (cells c) 33)
      generalize Lib.decDigits c.ts = D at *
      generalize hP : printL (l.take k) = P at *
      have hPl : P.length ≤ 4000000 := by omega
      go_upto_region 6 with (fail)
      generalize wr.alloc (.cells (cells c) 33) = w1 at *
      obtain ⟨z0, z1, z2, z3, z4, z5⟩ := hw1.six
      cases hd : c.del with
      | true =>
        rw [hd] at z4 HRB
        go_upto_region 9 with (fail)
        go_quiet ((go_at_call 28; refine Calls.quiet_of (C _)))
        have hXe : B c.row ++ { data := #[32] } ++ B c.col ++ { data := #[32] } ++ B D ++ { data := #[32] } ++ ({ data := #[45] } ++ B c.val) = B (rbody c) := by
          rw [HRB.out]
          simp only [← add_B]
          rfl
        rw [hXe]
        have hw2 : Bk (w1.drewN nq) wr.heap.size 33 (cells c) := hw1.old ((Old.re _).dn nq)
        have o2 : Old w (w1.drewN nq) := (ho.tr o1).dn nq
        generalize w1.drewN nq = w2 at *
        clear z0 z1 z2 z3 z4 z5 hXe hw1 hd
        have R := rline_any (rbody c) w2 (by omega)
        have HLT := Lib.hid (fun h => body_line c h)
        have HRT := Lib.hid (fun h => rbody_told c h)
        have HRN := Lib.hid (fun h h2 => rbody_not c h h2)
        have HTR := Lib.hid (fun h => told_row (c := c) h)
        generalize rbody c = X at *
        go_wp2_with (go_at_call 21; refine R.mono ?_; rintro e W3 ⟨⟨x, rfl, hx⟩, o3⟩; refine Hid.out ?_)
        have o4 := o2.tr o3
        have hw4 := (hw2.old o3).alloc (.cells (cells x) 33)
        obtain ⟨z0, z1, z2, z3, z4, z5⟩ := hw4.six
        cases hb : toldB c with
        | true =>
          have hlo : lineO X = some c := by rw [HRT.out hb]; exact (HLT.out hb).1
          obtain rfl := (hx c hlo).symm
          rw [hlo, show (some c : Option Cel).isSome = true from rfl]
          have hr0 := (HTR.out hb).1
          have HB := Lib.hid (B_at c.row 0 hr0)
          have h35 : ¬ c.row[0] = 35 := fun e => (HTR.out hb).2 (by rw [List.head?_eq_getElem?, List.getElem?_eq_getElem hr0, e])
          have hb5 : ¬ (((B c.row)[0]'(by simpa [B, ByteArray.size] using hr0)).toNat : Int) = 35 := fun e => h35 (HB.out.symm.trans ((byte_n 35 (by decide)).1 e))
          have hb6 : ((((B c.row)[0]'(by simpa [B, ByteArray.size] using hr0)).toNat : Int) == 35) = false := by rw [beq_eq_false_iff_ne]; exact hb5
          have hne := fun W => neq_eq c W
          have HP2 := Lib.hid (show B P ++ B X ++ { data := #[10] } = B (printL (l.take (k + 1))) by
            rw [HT.out, print_snoc, hP, lineL, ← HRT.out hb]
            simp only [← add_B, ← ByteArray.append_assoc])
          have HA2 := Lib.hid (show (l.take (k + 1)).all toldB = true by rw [HT.out, List.all_append, HA.out]; simp [hb])
          clear h35
          refine Lib.hid ?_
          go_wp2
          go_roundw
          case rel => exact ⟨k + 1, by omega, by go_num, congrArg Value.string HP2.out, o4.al _, HA2⟩
          case measure => simp [intOf]; omega
        | false =>
          have HN := Lib.hid (HM.out hb)
          cases hlo : lineO X with
          | none =>
            rw [show (none : Option Cel).isSome = false from rfl]
            refine Lib.hid ?_
            go_wp2
            go_ret2
            exact ⟨by rw [HS.out, HE.out]; unfold printS printE; rw [HN.out]; rfl, o4.al _⟩
          | some y =>
            obtain rfl := hx y hlo
            rw [show (some x : Option Cel).isSome = true from rfl]
            by_cases hxc : x = c
            · subst hxc
              have hh : x.row.head? = some 35 := Classical.byContradiction fun e => by rw [HRN.out hlo e] at hb; cases hb
              have hr0 : 0 < x.row.length := by
                cases hr : x.row with
                | nil => rw [hr] at hh; cases hh
                | cons y v => simp
              have HB := Lib.hid (B_at x.row 0 hr0)
              have hb5 : (B x.row)[0]'(by simpa [B, ByteArray.size] using hr0) = 35 := HB.out.trans (by rw [List.head?_eq_getElem?, List.getElem?_eq_getElem hr0] at hh; injection hh)
              have hne := fun W => neq_eq x W
              refine Lib.hid ?_
              go_wp2
              go_ret2
              exact ⟨by rw [HS.out, HE.out]; unfold printS printE; rw [HN.out]; rfl, o4.al _⟩
            · have hne := fun W => neq_ne x c hxc W
              refine Lib.hid ?_
              go_wp2
              go_ret2
              exact ⟨by rw [HS.out, HE.out]; unfold printS printE; rw [HN.out]; rfl, o4.al _⟩
      | false =>
        rw [hd] at z4 HRB
        go_upto_region 9 with (fail)
        go_quiet ((go_at_call 28; refine Calls.quiet_of (C _)))
        have hXe : B c.row ++ { data := #[32] } ++ B c.col ++ { data := #[32] } ++ B D ++ { data := #[32] } ++ ({ data := #[61] } ++ B c.val) = B (rbody c) := by
          rw [HRB.out]
          simp only [← add_B]
          rfl
        rw [hXe]
        have hw2 : Bk (w1.drewN nq) wr.heap.size 33 (cells c) := hw1.old ((Old.re _).dn nq)
        have o2 : Old w (w1.drewN nq) := (ho.tr o1).dn nq
        generalize w1.drewN nq = w2 at *
        clear z0 z1 z2 z3 z4 z5 hXe hw1 hd
        have R := rline_any (rbody c) w2 (by omega)
        have HLT := Lib.hid (fun h => body_line c h)
        have HRT := Lib.hid (fun h => rbody_told c h)
        have HRN := Lib.hid (fun h h2 => rbody_not c h h2)
        have HTR := Lib.hid (fun h => told_row (c := c) h)
        generalize rbody c = X at *
        go_wp2_with (go_at_call 21; refine R.mono ?_; rintro e W3 ⟨⟨x, rfl, hx⟩, o3⟩; refine Hid.out ?_)
        have o4 := o2.tr o3
        have hw4 := (hw2.old o3).alloc (.cells (cells x) 33)
        obtain ⟨z0, z1, z2, z3, z4, z5⟩ := hw4.six
        cases hb : toldB c with
        | true =>
          have hlo : lineO X = some c := by rw [HRT.out hb]; exact (HLT.out hb).1
          obtain rfl := (hx c hlo).symm
          rw [hlo, show (some c : Option Cel).isSome = true from rfl]
          have hr0 := (HTR.out hb).1
          have HB := Lib.hid (B_at c.row 0 hr0)
          have h35 : ¬ c.row[0] = 35 := fun e => (HTR.out hb).2 (by rw [List.head?_eq_getElem?, List.getElem?_eq_getElem hr0, e])
          have hb5 : ¬ (((B c.row)[0]'(by simpa [B, ByteArray.size] using hr0)).toNat : Int) = 35 := fun e => h35 (HB.out.symm.trans ((byte_n 35 (by decide)).1 e))
          have hb6 : ((((B c.row)[0]'(by simpa [B, ByteArray.size] using hr0)).toNat : Int) == 35) = false := by rw [beq_eq_false_iff_ne]; exact hb5
          have hne := fun W => neq_eq c W
          have HP2 := Lib.hid (show B P ++ B X ++ { data := #[10] } = B (printL (l.take (k + 1))) by
            rw [HT.out, print_snoc, hP, lineL, ← HRT.out hb]
            simp only [← add_B, ← ByteArray.append_assoc])
          have HA2 := Lib.hid (show (l.take (k + 1)).all toldB = true by rw [HT.out, List.all_append, HA.out]; simp [hb])
          clear h35
          refine Lib.hid ?_
          go_wp2
          go_roundw
          case rel => exact ⟨k + 1, by omega, by go_num, congrArg Value.string HP2.out, o4.al _, HA2⟩
          case measure => simp [intOf]; omega
        | false =>
          have HN := Lib.hid (HM.out hb)
          cases hlo : lineO X with
          | none =>
            rw [show (none : Option Cel).isSome = false from rfl]
            refine Lib.hid ?_
            go_wp2
            go_ret2
            exact ⟨by rw [HS.out, HE.out]; unfold printS printE; rw [HN.out]; rfl, o4.al _⟩
          | some y =>
            obtain rfl := hx y hlo
            rw [show (some x : Option Cel).isSome = true from rfl]
            by_cases hxc : x = c
            · subst hxc
              have hh : x.row.head? = some 35 := Classical.byContradiction fun e => by rw [HRN.out hlo e] at hb; cases hb
              have hr0 : 0 < x.row.length := by
                cases hr : x.row with
                | nil => rw [hr] at hh; cases hh
                | cons y v => simp
              have HB := Lib.hid (B_at x.row 0 hr0)
              have hb5 : (B x.row)[0]'(by simpa [B, ByteArray.size] using hr0) = 35 := HB.out.trans (by rw [List.head?_eq_getElem?, List.getElem?_eq_getElem hr0] at hh; injection hh)
              have hne := fun W => neq_eq x W
              refine Lib.hid ?_
              go_wp2
              go_ret2
              exact ⟨by rw [HS.out, HE.out]; unfold printS printE; rw [HN.out]; rfl, o4.al _⟩
            · have hne := fun W => neq_ne x c hxc W
              refine Lib.hid ?_
              go_wp2
              go_ret2
              exact ⟨by rw [HS.out, HE.out]; unfold printS printE; rw [HN.out]; rfl, o4.al _⟩
    · obtain rfl : k = l.length := by omega
      have HA2 := Lib.hid (show l.all toldB = true by have := HA.out; rwa [List.take_length] at this)
      have HPL := Lib.hid (show printS l = printL (l.take l.length) by rw [List.take_length]; unfold printS; rw [HA2.out]; rfl)
      generalize printL (l.take l.length) = P at *
      go_wp2
      go_ret2
      exact ⟨by rw [HS.out, HE.out, HPL.out]; unfold printE; rw [HA2.out]; rfl, ho⟩

set_option maxHeartbeats 1000000 in
theorem rprint_none (A : Option Addr) (cap : Nat) (w : World) :
    Calls Tryd.prog 17 #[.slice A 0 cap] w fun e w' => e = .returned (.tuple #[.string (B (printS [])), .int .i64 (printE [] : Nat)]) ∧ Old w w' := by
  go_enter Tryd.func17, Tryd.ntmps17
  go_wp2_with fail
  refine wp_loop_rounds 1 ?_
  rw [rounds_succ]
  go_wp2
  go_ret2
  exact ⟨rfl, Old.re _⟩
theorem rprint_any (v : Value) (l : List Cel) (w : World) (h : Cels w v l) (hml : l.length ≤ 1000) (hsm : ∀ c ∈ l, c.sm) :
    Calls Tryd.prog 17 #[v] w fun e w' => e = .returned (.tuple #[.string (B (printS l)), .int .i64 (printE l : Nat)]) ∧ Old w w' := by
  rcases h with ⟨rfl, A, cap, rfl⟩ | ⟨b, off, cap, rfl, h⟩
  · exact rprint_none A cap w
  · exact rprint_at b off cap l w h hml hsm
end Go.Proofs.YtacniohflhpgaaaDoor
