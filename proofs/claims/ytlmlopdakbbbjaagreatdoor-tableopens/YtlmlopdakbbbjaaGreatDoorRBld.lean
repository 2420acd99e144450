/-
  The reference's Build answers what the code's does. Conditions: the list is a slice that came in; its cells' numbers are of 64 bits.
-/
import Derived.Test.YtlmlopdakbbbjaaGreatDoorInv
import Derived.Test.YtlmlopdakbbbjaaGreatDoorShb
namespace Go.Proofs.YtlmlopdakbbbjaaGreatDoor
open Go.RowKit
set_option linter.unusedSimpArgs false

/-- The byte of Del. -/
def delI (c : Cel) : Int := if c.del then 1 else 0
theorem flag_cells (c : Cel) (n : Nat) (h : n < 256) : (#[.int .u8 (delI c), .int .u8 (n : Int)] : Array Value) = (bs (flag1 c.del ++ [UInt8.ofNat n])).toArray := by
  have e : (UInt8.ofNat n).toNat = n := by simp; omega
  cases hd : c.del <;> simp [bs, flag1, delI, hd] <;> omega
theorem len_cells (n : Nat) (h : n < 256) : (#[.int .u8 (n : Int)] : Array Value) = (bs [UInt8.ofNat n]).toArray := by
  simp [bs]; omega
theorem two_cells (n : Nat) (h : n < 65536) : (#[.int .u8 ((n : Int) % 256), .int .u8 ((n : Int) / 256)] : Array Value) = (bs (two n)).toArray := by
  simp [bs, two]; omega
theorem getD_form {b : Act} {t : Nat} {v : Value} (h : b.tmps.getD t undef = v) : b.tmps[t]?.getD undef = v := by
  rw [← Array.getD_eq_getD_getElem?]; exact h
/-- An operation that puts one text behind another. -/
theorem wp_addop {b : Act} {W : World} {K : Act → World → Prop} {Q : Exit → Act → World → Prop} {d x y : Nat} {ty : TypeId} {pos : String} {aft : Array Edge} {p q : List UInt8}
    (hx : b.tmps.getD x undef = .string (B p)) (hy : b.tmps.getD y undef = .string (B q)) (hl : p.length + q.length ≤ 1000000) (h : K (b.put (some d) (.string (B (p ++ q)))) W) :
    Oper.wp Tryz.prog ⟨some d, .binOp .add 9 (.tmp x) (.tmp y) 9, ty, pos, aft, none⟩ b W K Q := by
  have hn : ¬ (9223372036854775807 < p.length + q.length) := by omega
  have hx2 := getD_form hx
  have hy2 := getD_form hy
  rw [← add_B] at h
  go_simp
  exact h

set_option maxHeartbeats 1000000 in
theorem rtwo_any (n : Nat) (w : World) (hn : n < 65536) :
    Calls Tryz.prog 60 #[.int .i64 n] w fun e w' => e = .returned (.string (B (two n))) ∧ Old w w' := by
  have hB := new_bk w 5 (bs (two n)).toArray
  have hO := old_alloc w (.cells (bs (two n)).toArray 5)
  have hcv : (convert 56 9 (.slice (some ⟨w.heap.size, 0, none⟩) 2 2)).run Tryz.prog (w.alloc (.cells (bs (two n)).toArray 5)) = .ok (.string (B (two n))) (w.alloc (.cells (bs (two n)).toArray 5)) := run_str (Own.blk (base := 0) (l := two n) (Nat.zero_le _) hB (by simp [two]))
  rw [← two_cells n hn] at hcv hO
  clear hB
  go_enter Tryz.func60, Tryz.ntmps60
  go_wp2
  go_ret
  exact ⟨rfl, hO⟩

/-- What each operation of the statement yields. -/
def bldV (b off len cap k nn : Nat) (pre ky : List UInt8) (c : Cel) (i : Nat) (v : Value) (W : World) : Prop := match i with
  | 0 => v = .string (B (pre))
  | 1 => v = .int .i64 (nn : Nat)
  | 2 => v = .string (B (two nn))
  | 3 => v = .string (B (pre ++ two nn))
  | 4 => v = .string (B (ky))
  | 5 => v = .int .i64 (ky.length : Nat)
  | 6 => v = .int .i64 (nn : Nat)
  | 7 => v = .int .i64 (ky.length - nn : Nat)
  | 8 => v = .string (B (two (ky.length - nn)))
  | 9 => v = .string (B (pre ++ two nn ++ two (ky.length - nn)))
  | 10 => v = .string (B (ky))
  | 11 => v = .int .i64 (nn : Nat)
  | 12 => v = .string (B (ky.drop nn))
  | 13 => v = .string (B (pre ++ two nn ++ two (ky.length - nn) ++ ky.drop nn))
  | 14 => v = .int .u8 (delI c)
  | 15 => v = .slice (some ⟨b, off, none⟩) len cap
  | 16 => v = .int .i64 (k : Nat)
  | 17 => v = .pointer (some ⟨b, off + k * 6, none⟩)
  | 18 => v = .pointer (some ⟨b, off + k * 6 + 5, none⟩)
  | 19 => v = .string (B (c.val))
  | 20 => v = .int .i64 (c.val.length : Nat)
  | 21 => v = .int .u8 (c.val.length : Nat)
  | 22 => ∃ h, v = .slice (some ⟨h, 0, none⟩) 2 2 ∧ Bk W h 5 (bs (flag1 c.del ++ [UInt8.ofNat c.val.length])).toArray
  | 23 => v = .string (B (flag1 c.del ++ [UInt8.ofNat c.val.length]))
  | 24 => v = .string (B (pre ++ two nn ++ two (ky.length - nn) ++ ky.drop nn ++ (flag1 c.del ++ [UInt8.ofNat c.val.length])))
  | 25 => v = .slice (some ⟨b, off, none⟩) len cap
  | 26 => v = .int .i64 (k : Nat)
  | 27 => v = .pointer (some ⟨b, off + k * 6, none⟩)
  | 28 => v = .pointer (some ⟨b, off + k * 6 + 5, none⟩)
  | 29 => v = .string (B (c.val))
  | 30 => v = .string (B (pre ++ two nn ++ two (ky.length - nn) ++ ky.drop nn ++ (flag1 c.del ++ [UInt8.ofNat c.val.length]) ++ c.val))
  | 31 => v = .string (B (pre ++ two nn ++ two (ky.length - nn) ++ ky.drop nn ++ (flag1 c.del ++ [UInt8.ofNat c.val.length]) ++ c.val))
  | _ => False
def bldD (i : Nat) : Nat := if i = 31 then 5 else i + 60
theorem bldV_stab (b off len cap k nn : Nat) (pre ky : List UInt8) (c : Cel) (i : Nat) (u : Value) (W W' : World) (hO : Old W W') (h : bldV b off len cap k nn pre ky c i u W) : bldV b off len cap k nn pre ky c i u W' := by
  revert h
  unfold bldV
  split <;> first
    | exact id
    | (rintro ⟨g, e, hb⟩; exact ⟨g, e, hb.old hO⟩)
def bldS (w : World) (b off k : Nat) (c : Cel) (W : World) : Prop := At6 W b (off + k * 6) c ∧ Old w W
theorem bldS.old {w W W' : World} {b off k : Nat} {c : Cel} (h : bldS w b off k c W) (o : Old W W') : bldS w b off k c W' := ⟨h.1.old o, h.2.tr o⟩
theorem bldD_91 : ∀ i, i < 32 → bldD i ≠ 91 := fun i _ => by unfold bldD; split <;> omega
theorem bldD_lt (t : Nat) (h : t < 60) (h5 : t ≠ 5) : ∀ i, i < 32 → bldD i ≠ t := fun i _ => by unfold bldD; split <;> omega

theorem arr_lit (bt : Array Value) (h : bt.size = 92) : bt = #[bt.getD 0 undef, bt.getD 1 undef, bt.getD 2 undef, bt.getD 3 undef, bt.getD 4 undef, bt.getD 5 undef, bt.getD 6 undef, bt.getD 7 undef, bt.getD 8 undef, bt.getD 9 undef, bt.getD 10 undef, bt.getD 11 undef, bt.getD 12 undef, bt.getD 13 undef, bt.getD 14 undef, bt.getD 15 undef, bt.getD 16 undef, bt.getD 17 undef, bt.getD 18 undef, bt.getD 19 undef, bt.getD 20 undef, bt.getD 21 undef, bt.getD 22 undef, bt.getD 23 undef, bt.getD 24 undef, bt.getD 25 undef, bt.getD 26 undef, bt.getD 27 undef, bt.getD 28 undef, bt.getD 29 undef, bt.getD 30 undef, bt.getD 31 undef, bt.getD 32 undef, bt.getD 33 undef, bt.getD 34 undef, bt.getD 35 undef, bt.getD 36 undef, bt.getD 37 undef, bt.getD 38 undef, bt.getD 39 undef, bt.getD 40 undef, bt.getD 41 undef, bt.getD 42 undef, bt.getD 43 undef, bt.getD 44 undef, bt.getD 45 undef, bt.getD 46 undef, bt.getD 47 undef, bt.getD 48 undef, bt.getD 49 undef, bt.getD 50 undef, bt.getD 51 undef, bt.getD 52 undef, bt.getD 53 undef, bt.getD 54 undef, bt.getD 55 undef, bt.getD 56 undef, bt.getD 57 undef, bt.getD 58 undef, bt.getD 59 undef, bt.getD 60 undef, bt.getD 61 undef, bt.getD 62 undef, bt.getD 63 undef, bt.getD 64 undef, bt.getD 65 undef, bt.getD 66 undef, bt.getD 67 undef, bt.getD 68 undef, bt.getD 69 undef, bt.getD 70 undef, bt.getD 71 undef, bt.getD 72 undef, bt.getD 73 undef, bt.getD 74 undef, bt.getD 75 undef, bt.getD 76 undef, bt.getD 77 undef, bt.getD 78 undef, bt.getD 79 undef, bt.getD 80 undef, bt.getD 81 undef, bt.getD 82 undef, bt.getD 83 undef, bt.getD 84 undef, bt.getD 85 undef, bt.getD 86 undef, bt.getD 87 undef, bt.getD 88 undef, bt.getD 89 undef, bt.getD 90 undef, bt.getD 91 undef] := by
  have e : bt.toList = (List.range 92).map (fun i => bt.getD i undef) := by
    apply List.ext_getElem
    · simp [h]
    · intro i h1 h2
      have hi : i < bt.size := by simpa using h1
      simp [Array.getD_eq_getD_getElem?, hi]
  have e2 : (List.range 92).map (fun i => bt.getD i undef) = [bt.getD 0 undef, bt.getD 1 undef, bt.getD 2 undef, bt.getD 3 undef, bt.getD 4 undef, bt.getD 5 undef, bt.getD 6 undef, bt.getD 7 undef, bt.getD 8 undef, bt.getD 9 undef, bt.getD 10 undef, bt.getD 11 undef, bt.getD 12 undef, bt.getD 13 undef, bt.getD 14 undef, bt.getD 15 undef, bt.getD 16 undef, bt.getD 17 undef, bt.getD 18 undef, bt.getD 19 undef, bt.getD 20 undef, bt.getD 21 undef, bt.getD 22 undef, bt.getD 23 undef, bt.getD 24 undef, bt.getD 25 undef, bt.getD 26 undef, bt.getD 27 undef, bt.getD 28 undef, bt.getD 29 undef, bt.getD 30 undef, bt.getD 31 undef, bt.getD 32 undef, bt.getD 33 undef, bt.getD 34 undef, bt.getD 35 undef, bt.getD 36 undef, bt.getD 37 undef, bt.getD 38 undef, bt.getD 39 undef, bt.getD 40 undef, bt.getD 41 undef, bt.getD 42 undef, bt.getD 43 undef, bt.getD 44 undef, bt.getD 45 undef, bt.getD 46 undef, bt.getD 47 undef, bt.getD 48 undef, bt.getD 49 undef, bt.getD 50 undef, bt.getD 51 undef, bt.getD 52 undef, bt.getD 53 undef, bt.getD 54 undef, bt.getD 55 undef, bt.getD 56 undef, bt.getD 57 undef, bt.getD 58 undef, bt.getD 59 undef, bt.getD 60 undef, bt.getD 61 undef, bt.getD 62 undef, bt.getD 63 undef, bt.getD 64 undef, bt.getD 65 undef, bt.getD 66 undef, bt.getD 67 undef, bt.getD 68 undef, bt.getD 69 undef, bt.getD 70 undef, bt.getD 71 undef, bt.getD 72 undef, bt.getD 73 undef, bt.getD 74 undef, bt.getD 75 undef, bt.getD 76 undef, bt.getD 77 undef, bt.getD 78 undef, bt.getD 79 undef, bt.getD 80 undef, bt.getD 81 undef, bt.getD 82 undef, bt.getD 83 undef, bt.getD 84 undef, bt.getD 85 undef, bt.getD 86 undef, bt.getD 87 undef, bt.getD 88 undef, bt.getD 89 undef, bt.getD 90 undef, bt.getD 91 undef] := rfl
  rw [e2] at e
  rw [← Array.toArray_toList (xs := bt), e]
  exact congrArg List.toArray e.symm ▸ rfl

set_option maxRecDepth 100000 in
set_option maxHeartbeats 16000000 in
theorem rbuild_any (b off cap : Nat) (l : List Cel) (w : World) (h : CelsAt w b off l) (hok : ∀ c ∈ l, c.ok) (hml : l.length ≤ 1000000000) :
    Calls Tryz.prog 26 #[.slice (some ⟨b, off, none⟩) l.length cap] w fun e w' => e = .returned (buildV l) ∧ Old w w' := by
  by_cases h255 : 255 < l.length
  · have HV := Lib.hid (buildV_no (l := l) (e := 71) (by unfold errB; rw [if_pos h255]) (by decide))
    go_enter Tryz.func26, Tryz.ntmps26
    go_wp2
    go_ret2
    exact ⟨by rw [HV.out]; rfl, Old.re _⟩
  have HE1 := Lib.hid (show errB l = if l.all mayB = false then 1 else if rising l = false then 40 else 0 by unfold errB; rw [if_neg h255])
  have hI0 : decide ((255 : Int) < (l.length : Int)) = false := by simp; omega
  go_enter Tryz.func26, Tryz.ntmps26
  go_wp2_with fail
  clear hI0
  go_loopw [4] (fun i wr => ∃ k : Nat, k ≤ l.length ∧ i = .int .i64 k ∧ Old w wr ∧ Hid (∀ c ∈ l.take k, mayB c = true)) (fun i _ => l.length - (intOf i).toNat)
  case atStart => exact ⟨0, by omega, rfl, Old.re _, Lib.hid (by simp)⟩
  case round =>
    obtain ⟨k, hk, rfl, hw, HM⟩ := hrel
    by_cases h1 : k < l.length
    · have hx := (h.at_ k h1).old hw
      have HT := Lib.hid (List.take_succ_eq_append_getElem h1)
      have HI := Lib.hid (List.getElem_mem h1)
      generalize l[k] = c at *
      obtain ⟨a0, a1, a2, a3, a4, a5⟩ := hx.held
      go_wp2_with fail
      refine (rmay_any c _).mono ?_
      rintro e w1 ⟨rfl, hb⟩
      cases hm : mayB c
      · have HV := Lib.hid (buildV_no (l := l) (e := 1) (by rw [HE1.out, if_pos]; rw [List.all_eq_false]; exact ⟨c, HI.out, by simp [hm]⟩) (by decide))
        go_wp2
        go_ret2
        exact ⟨by rw [HV.out]; rfl, hw.tr hb⟩
      · go_wp2
        go_roundw
        case rel =>
          refine ⟨k + 1, by omega, by go_num, hw.tr hb, Lib.hid ?_⟩
          intro d hd
          rw [HT.out, List.mem_append] at hd
          rcases hd with hd | hd
          · exact HM.out d hd
          · rw [List.mem_singleton.1 hd]; exact hm
        case measure => simp [intOf]; omega
    · have hkl : k = l.length := by omega
      have hall : ∀ c ∈ l, mayB c = true := by
        have := HM.out
        rwa [hkl, List.take_length] at this
      have HE2 := Lib.hid (show errB l = if rising l = false then 40 else 0 by rw [HE1.out, if_neg]; simp; exact hall)
      clear HE1 HM
      go_wp2_with fail
      refine (rrising_any b off cap l _ (by omega) (h.old hw)).mono ?_
      rintro e w1 ⟨rfl, hb⟩
      have o1 := hw.tr hb
      clear hb hw
      cases hr : rising l
      · have HV := Lib.hid (buildV_no (l := l) (e := 40) (by rw [HE2.out, hr]; rfl) (by decide))
        go_wp2
        go_ret2
        exact ⟨by rw [HV.out]; rfl, o1⟩
      · have HV := Lib.hid (buildV_yes (l := l) (by rw [HE2.out, hr]; rfl))
        clear HE2 hr
        have hB := new_bk w1 5 (bs [UInt8.ofNat l.length]).toArray
        have o2 := o1.al (.cells (bs [UInt8.ofNat l.length]).toArray 5)
        have hcv : (convert 56 9 (.slice (some ⟨w1.heap.size, 0, none⟩) 1 1)).run Tryz.prog (w1.alloc (.cells (bs [UInt8.ofNat l.length]).toArray 5)) = .ok (.string (B [UInt8.ofNat l.length])) (w1.alloc (.cells (bs [UInt8.ofNat l.length]).toArray 5)) := run_str (Own.blk (base := 0) (l := [UInt8.ofNat l.length]) (Nat.zero_le _) hB (by simp))
        rw [← len_cells l.length (by omega)] at hcv o2
        have hw3 : IntKind.u8.wrap (l.length : Int) = (l.length : Int) := by rw [IntKind.wrap_u8]; omega
        clear hB o1
        go_wp2_with fail
        generalize w1.alloc (.cells #[.int .u8 (l.length : Int)] 5) = w2 at *
        clear hcv hw3
        go_loopw [5, 6] (fun v i wr => ∃ (k : Nat) (pre last : List UInt8), k ≤ l.length ∧ v = .string (B pre) ∧ i = .int .i64 k ∧ Old w wr ∧ pre.length ≤ 1 + 300 * k ∧ last.length ≤ 180 ∧ Hid (0 < k → ∃ c, l[k - 1]? = some c ∧ last = key c) ∧ Hid (blk l = pre ++ entsFrom k last (l.drop k))) (fun _ i _ => l.length - (intOf i).toNat)
        case atStart => exact ⟨0, _, [], by omega, rfl, rfl, o2, by simp, by simp, Lib.hid (by intro h; omega), Lib.hid rfl⟩
        case round =>
          obtain ⟨k, pre, last, hk, rfl, rfl, hw, hpl, hll, HL, HB⟩ := hrel
          by_cases h1 : k < l.length
          · have hx := (h.at_ k h1).old hw
            have HD := Lib.hid (List.drop_eq_getElem_cons h1)
            have HG := Lib.hid (List.getElem?_eq_getElem h1)
            have hmc := hall _ (List.getElem_mem h1)
            have hoc := hok _ (List.getElem_mem h1)
            generalize l[k] = c at *
            obtain ⟨a0, a1, a2, a3, a4, a5⟩ := hx.held
            have hel := ent_len (lend k last) c hmc
            have hkl2 := key_len c hmc
            have hsl := (share_le (lend k last) (key c)).2
            have hvl := (mayB_parts hmc).2.2.2.2
            have hent : Hid (ent (lend k last) c = two (share (lend k last) (key c)) ++ two ((key c).length - share (lend k last) (key c)) ++ (key c).drop (share (lend k last) (key c)) ++ flag1 c.del ++ [UInt8.ofNat c.val.length] ++ c.val) := Lib.hid rfl
            go_wp2_with fail
            refine (rkey_any c _ hoc).mono ?_
            rintro e w3 ⟨rfl, k3⟩
            rw [show rkeyB c = key c by unfold rkeyB; rw [hmc]; rfl]
            have hx3 := hx.old k3
            have o3 := hw.tr k3
            clear k3 hw hx a0 a1 a2 a3 a4 a5
            obtain ⟨nn, hnn⟩ : ∃ nn, nn = share (lend k last) (key c) := ⟨_, rfl⟩
            rw [← hnn] at hent hsl
            have SS : bldS w b off k c w3 := ⟨hx3, o3⟩
            have f4 := hx3.held.2.2.2.2.1
            generalize hky : key c = ky at *
            have HK : Hid (ky = key c) := Lib.hid hky.symm
            clear hky
            by_cases hm4 : k % 4 = 0
            · have d4 : ((k : Int) % 4 != 0) = false := by rw [bne_eq_false_iff_eq]; omega
              have e0 : nn = 0 := by rw [hnn, lend, if_pos hm4, share_nil_left]
              clear hnn
              have q8 := Lib.hid (show (Value.int .i64 0) = .int .i64 (nn : Nat) by rw [e0]; rfl)
              clear e0
              cases hd : c.del
              · rw [hd] at f4
                have q9 := Lib.hid (show (Value.int .u8 0) = .int .u8 (delI c) by simp [delI, hd])
                clear hd
                go_wp2_with fail
                refine wp_region_runs (by kernel_rfl) (bldS w b off k c) (bldV b off l.length cap k nn pre ky c) bldD 32 rfl (by kernel_rfl) ?ra0 ?rb0 (bldV_stab b off l.length cap k nn pre ky c) (SS.old (Old.re _).dr) ?rc0 ?rd0
                case ra0 => (intro i hi; simp only [List.size_toArray, List.length_cons, List.length_nil]; unfold bldD; split <;> omega)
                case rb0 => (intro i j hi hj h; unfold bldD at h; split at h <;> split at h <;> omega)
                case rd0 =>
                  intro e W hS hdf hsz hrest hall
                  have r5 : e.tmps.getD 5 undef = .string (B (pre ++ two nn ++ two (ky.length - nn) ++ ky.drop nn ++ (flag1 c.del ++ [UInt8.ofNat c.val.length]) ++ c.val)) := hall 31 (by omega)
                  have r0 : e.tmps.getD 0 undef = .slice (some ⟨b, off, none⟩) l.length cap := hrest 0 (bldD_lt 0 (by omega) (by omega))
                  have r6 : e.tmps.getD 6 undef = .int .i64 (k : Nat) := hrest 6 (bldD_lt 6 (by omega) (by omega))
                  generalize hP : pre ++ two nn ++ two (ky.length - nn) ++ ky.drop nn ++ (flag1 c.del ++ [UInt8.ofNat c.val.length]) ++ c.val = P at r5
                  have HP := Lib.hid hP
                  clear hP
                  have r1 := hrest 1 (bldD_lt 1 (by omega) (by omega))
                  conv at r1 => rhs; whnf
                  try change _ = undef at r1
                  have r2 := hrest 2 (bldD_lt 2 (by omega) (by omega))
                  conv at r2 => rhs; whnf
                  try change _ = undef at r2
                  have r3 := hrest 3 (bldD_lt 3 (by omega) (by omega))
                  conv at r3 => rhs; whnf
                  try change _ = undef at r3
                  have r4 := hrest 4 (bldD_lt 4 (by omega) (by omega))
                  conv at r4 => rhs; whnf
                  try change _ = undef at r4
                  have r7 := hrest 7 (bldD_lt 7 (by omega) (by omega))
                  conv at r7 => rhs; whnf
                  try change _ = undef at r7
                  have r8 := hrest 8 (bldD_lt 8 (by omega) (by omega))
                  conv at r8 => rhs; whnf
                  try change _ = undef at r8
                  have r9 := hrest 9 (bldD_lt 9 (by omega) (by omega))
                  conv at r9 => rhs; whnf
                  try change _ = undef at r9
                  have r10 := hrest 10 (bldD_lt 10 (by omega) (by omega))
                  conv at r10 => rhs; whnf
                  try change _ = undef at r10
                  have r11 := hrest 11 (bldD_lt 11 (by omega) (by omega))
                  conv at r11 => rhs; whnf
                  try change _ = undef at r11
                  have r12 := hrest 12 (bldD_lt 12 (by omega) (by omega))
                  conv at r12 => rhs; whnf
                  try change _ = undef at r12
                  have r13 := hrest 13 (bldD_lt 13 (by omega) (by omega))
                  conv at r13 => rhs; whnf
                  try change _ = undef at r13
                  have r14 := hrest 14 (bldD_lt 14 (by omega) (by omega))
                  conv at r14 => rhs; whnf
                  try change _ = undef at r14
                  have r15 := hrest 15 (bldD_lt 15 (by omega) (by omega))
                  conv at r15 => rhs; whnf
                  try change _ = undef at r15
                  have r16 := hrest 16 (bldD_lt 16 (by omega) (by omega))
                  conv at r16 => rhs; whnf
                  try change _ = undef at r16
                  have r17 := hrest 17 (bldD_lt 17 (by omega) (by omega))
                  conv at r17 => rhs; whnf
                  try change _ = undef at r17
                  have r18 := hrest 18 (bldD_lt 18 (by omega) (by omega))
                  conv at r18 => rhs; whnf
                  try change _ = undef at r18
                  have r19 := hrest 19 (bldD_lt 19 (by omega) (by omega))
                  conv at r19 => rhs; whnf
                  try change _ = undef at r19
                  have r20 := hrest 20 (bldD_lt 20 (by omega) (by omega))
                  conv at r20 => rhs; whnf
                  try change _ = undef at r20
                  have r21 := hrest 21 (bldD_lt 21 (by omega) (by omega))
                  conv at r21 => rhs; whnf
                  try change _ = undef at r21
                  have r22 := hrest 22 (bldD_lt 22 (by omega) (by omega))
                  conv at r22 => rhs; whnf
                  try change _ = undef at r22
                  have r23 := hrest 23 (bldD_lt 23 (by omega) (by omega))
                  conv at r23 => rhs; whnf
                  try change _ = undef at r23
                  have r24 := hrest 24 (bldD_lt 24 (by omega) (by omega))
                  conv at r24 => rhs; whnf
                  try change _ = undef at r24
                  have r25 := hrest 25 (bldD_lt 25 (by omega) (by omega))
                  conv at r25 => rhs; whnf
                  try change _ = undef at r25
                  have r26 := hrest 26 (bldD_lt 26 (by omega) (by omega))
                  conv at r26 => rhs; whnf
                  try change _ = undef at r26
                  have r27 := hrest 27 (bldD_lt 27 (by omega) (by omega))
                  conv at r27 => rhs; whnf
                  try change _ = undef at r27
                  have r28 := hrest 28 (bldD_lt 28 (by omega) (by omega))
                  conv at r28 => rhs; whnf
                  try change _ = undef at r28
                  have r29 := hrest 29 (bldD_lt 29 (by omega) (by omega))
                  conv at r29 => rhs; whnf
                  try change _ = undef at r29
                  have r30 := hrest 30 (bldD_lt 30 (by omega) (by omega))
                  conv at r30 => rhs; whnf
                  try change _ = undef at r30
                  have r31 := hrest 31 (bldD_lt 31 (by omega) (by omega))
                  conv at r31 => rhs; whnf
                  try change _ = undef at r31
                  have r32 := hrest 32 (bldD_lt 32 (by omega) (by omega))
                  conv at r32 => rhs; whnf
                  try change _ = undef at r32
                  have r33 := hrest 33 (bldD_lt 33 (by omega) (by omega))
                  conv at r33 => rhs; whnf
                  try change _ = undef at r33
                  have r34 := hrest 34 (bldD_lt 34 (by omega) (by omega))
                  conv at r34 => rhs; whnf
                  try change _ = undef at r34
                  have r35 := hrest 35 (bldD_lt 35 (by omega) (by omega))
                  conv at r35 => rhs; whnf
                  try change _ = undef at r35
                  have r36 := hrest 36 (bldD_lt 36 (by omega) (by omega))
                  conv at r36 => rhs; whnf
                  try change _ = undef at r36
                  have r37 := hrest 37 (bldD_lt 37 (by omega) (by omega))
                  conv at r37 => rhs; whnf
                  try change _ = undef at r37
                  have r38 := hrest 38 (bldD_lt 38 (by omega) (by omega))
                  conv at r38 => rhs; whnf
                  try change _ = undef at r38
                  have r39 := hrest 39 (bldD_lt 39 (by omega) (by omega))
                  conv at r39 => rhs; whnf
                  try change _ = undef at r39
                  have r40 := hrest 40 (bldD_lt 40 (by omega) (by omega))
                  conv at r40 => rhs; whnf
                  try change _ = undef at r40
                  have r41 := hrest 41 (bldD_lt 41 (by omega) (by omega))
                  conv at r41 => rhs; whnf
                  try change _ = undef at r41
                  have r42 := hrest 42 (bldD_lt 42 (by omega) (by omega))
                  conv at r42 => rhs; whnf
                  try change _ = undef at r42
                  have r43 := hrest 43 (bldD_lt 43 (by omega) (by omega))
                  conv at r43 => rhs; whnf
                  try change _ = undef at r43
                  have r44 := hrest 44 (bldD_lt 44 (by omega) (by omega))
                  conv at r44 => rhs; whnf
                  try change _ = undef at r44
                  have r45 := hrest 45 (bldD_lt 45 (by omega) (by omega))
                  conv at r45 => rhs; whnf
                  try change _ = undef at r45
                  have r46 := hrest 46 (bldD_lt 46 (by omega) (by omega))
                  conv at r46 => rhs; whnf
                  try change _ = undef at r46
                  have r47 := hrest 47 (bldD_lt 47 (by omega) (by omega))
                  conv at r47 => rhs; whnf
                  try change _ = undef at r47
                  have r48 := hrest 48 (bldD_lt 48 (by omega) (by omega))
                  conv at r48 => rhs; whnf
                  try change _ = undef at r48
                  have r49 := hrest 49 (bldD_lt 49 (by omega) (by omega))
                  conv at r49 => rhs; whnf
                  try change _ = undef at r49
                  have r50 := hrest 50 (bldD_lt 50 (by omega) (by omega))
                  conv at r50 => rhs; whnf
                  try change _ = undef at r50
                  have r51 := hrest 51 (bldD_lt 51 (by omega) (by omega))
                  conv at r51 => rhs; whnf
                  try change _ = undef at r51
                  have r52 := hrest 52 (bldD_lt 52 (by omega) (by omega))
                  conv at r52 => rhs; whnf
                  try change _ = undef at r52
                  have r53 := hrest 53 (bldD_lt 53 (by omega) (by omega))
                  conv at r53 => rhs; whnf
                  try change _ = undef at r53
                  have r54 := hrest 54 (bldD_lt 54 (by omega) (by omega))
                  conv at r54 => rhs; whnf
                  try change _ = undef at r54
                  have r55 := hrest 55 (bldD_lt 55 (by omega) (by omega))
                  conv at r55 => rhs; whnf
                  try change _ = undef at r55
                  have r56 := hrest 56 (bldD_lt 56 (by omega) (by omega))
                  conv at r56 => rhs; whnf
                  try change _ = undef at r56
                  have r57 := hrest 57 (bldD_lt 57 (by omega) (by omega))
                  conv at r57 => rhs; whnf
                  try change _ = undef at r57
                  have r58 := hrest 58 (bldD_lt 58 (by omega) (by omega))
                  conv at r58 => rhs; whnf
                  try change _ = undef at r58
                  have r59 := hrest 59 (bldD_lt 59 (by omega) (by omega))
                  conv at r59 => rhs; whnf
                  try change _ = undef at r59
                  have r91 := hrest 91 bldD_91
                  conv at r91 => rhs; whnf
                  try change _ = undef at r91
                  clear hrest hall
                  obtain ⟨bt, bd⟩ := e
                  simp only at hdf hsz
                  subst hdf
                  have hlit := arr_lit bt hsz
                  rw [r0, r1, r2, r3, r4, r5, r6, r7, r8, r9, r10, r11, r12, r13, r14, r15, r16, r17, r18, r19, r20, r21, r22, r23, r24, r25, r26, r27, r28, r29, r30, r31, r32, r33, r34, r35, r36, r37, r38, r39, r40, r41, r42, r43, r44, r45, r46, r47, r48, r49, r50, r51, r52, r53, r54, r55, r56, r57, r58, r59, r91] at hlit
                  clear r0 r1 r2 r3 r4 r5 r6 r7 r8 r9 r10 r11 r12 r13 r14 r15 r16 r17 r18 r19 r20 r21 r22 r23 r24 r25 r26 r27 r28 r29 r30 r31 r32 r33 r34 r35 r36 r37 r38 r39 r40 r41 r42 r43 r44 r45 r46 r47 r48 r49 r50 r51 r52 r53 r54 r55 r56 r57 r58 r59 r91 hsz
                  generalize bt.getD 60 undef = u60 at hlit
                  generalize bt.getD 61 undef = u61 at hlit
                  generalize bt.getD 62 undef = u62 at hlit
                  generalize bt.getD 63 undef = u63 at hlit
                  generalize bt.getD 64 undef = u64 at hlit
                  generalize bt.getD 65 undef = u65 at hlit
                  generalize bt.getD 66 undef = u66 at hlit
                  generalize bt.getD 67 undef = u67 at hlit
                  generalize bt.getD 68 undef = u68 at hlit
                  generalize bt.getD 69 undef = u69 at hlit
                  generalize bt.getD 70 undef = u70 at hlit
                  generalize bt.getD 71 undef = u71 at hlit
                  generalize bt.getD 72 undef = u72 at hlit
                  generalize bt.getD 73 undef = u73 at hlit
                  generalize bt.getD 74 undef = u74 at hlit
                  generalize bt.getD 75 undef = u75 at hlit
                  generalize bt.getD 76 undef = u76 at hlit
                  generalize bt.getD 77 undef = u77 at hlit
                  generalize bt.getD 78 undef = u78 at hlit
                  generalize bt.getD 79 undef = u79 at hlit
                  generalize bt.getD 80 undef = u80 at hlit
                  generalize bt.getD 81 undef = u81 at hlit
                  generalize bt.getD 82 undef = u82 at hlit
                  generalize bt.getD 83 undef = u83 at hlit
                  generalize bt.getD 84 undef = u84 at hlit
                  generalize bt.getD 85 undef = u85 at hlit
                  generalize bt.getD 86 undef = u86 at hlit
                  generalize bt.getD 87 undef = u87 at hlit
                  generalize bt.getD 88 undef = u88 at hlit
                  generalize bt.getD 89 undef = u89 at hlit
                  generalize bt.getD 90 undef = u90 at hlit
                  subst hlit
                  have h9 := hS.2
                  clear hS
                  go_wp2
                  go_roundw
                  case rel =>
                    refine ⟨k + 1, _, ky, by omega, rfl, by go_num, h9, ?_, hkl2, Lib.hid ?_, Lib.hid ?_⟩
                    · have := hel; rw [hent.out] at this; rw [← HP.out]; simp at this ⊢; omega
                    · intro _; exact ⟨c, by rw [Nat.add_sub_cancel]; exact HG.out, HK.out⟩
                    · rw [HB.out, HD.out, entsFrom, hent.out, ← HK.out, ← HP.out]
                      simp
                  case measure => simp [intOf]; omega
                intro i o ho
                rcases i with _ | i
                · obtain rfl := Option.some.inj ho
                  refine ⟨rfl, rfl, fun e W K hS hdf hrest hdep hlate hK => ?_⟩
                  clear hdf
                  have e5 : e.tmps.getD 5 undef = .string (B pre) := (hlate 31 _ rfl ⟨⟨0, .phase⟩, by simp, rfl, rfl⟩)
                  have x5 := getD_form e5
                  go_simp
                  exact hK _ _ rfl (Old.re _) hS
                rcases i with _ | i
                · obtain rfl := Option.some.inj ho
                  refine ⟨rfl, rfl, fun e W K hS hdf hrest hdep hlate hK => ?_⟩
                  clear hdf
                  have e5 : e.tmps.getD 8 undef = .int .i64 (nn : Nat) := (hrest 8 (bldD_lt 8 (by omega) (by omega))).trans q8.out
                  have x5 := getD_form e5
                  go_simp
                  exact hK _ _ rfl (Old.re _) hS
                rcases i with _ | i
                · obtain rfl := Option.some.inj ho
                  refine ⟨rfl, rfl, fun e W K hS hdf hrest hdep hlate hK => ?_⟩
                  clear hdf
                  have d1 : bldV b off l.length cap k nn pre ky c 1 (e.tmps.getD 61 undef) W := hdep ⟨1, .data⟩ (by simp) rfl
                  replace d1 : e.tmps.getD 61 undef = .int .i64 (nn : Nat) := d1
                  have x1 := getD_form d1
                  go_simp
                  refine (rtwo_any nn _ (by omega)).mono ?_
                  rintro r W2 ⟨rfl, hO⟩
                  exact hK _ _ rfl hO (hS.old hO)
                rcases i with _ | i
                · obtain rfl := Option.some.inj ho
                  refine ⟨rfl, rfl, fun e W K hS hdf hrest hdep hlate hK => ?_⟩
                  clear hdf
                  have d0 : bldV b off l.length cap k nn pre ky c 0 (e.tmps.getD 60 undef) W := hdep ⟨0, .data⟩ (by simp) rfl
                  replace d0 : e.tmps.getD 60 undef = .string (B (pre)) := d0
                  have x0 := getD_form d0
                  have d2 : bldV b off l.length cap k nn pre ky c 2 (e.tmps.getD 62 undef) W := hdep ⟨2, .data⟩ (by simp) rfl
                  replace d2 : e.tmps.getD 62 undef = .string (B (two nn)) := d2
                  have x2 := getD_form d2
                  refine wp_addop d0 d2 (by simp [two, flag1_len]; omega) ?_
                  exact hK _ _ rfl (Old.re _) hS
                rcases i with _ | i
                · obtain rfl := Option.some.inj ho
                  refine ⟨rfl, rfl, fun e W K hS hdf hrest hdep hlate hK => ?_⟩
                  clear hdf
                  have e5 : e.tmps.getD 7 undef = .string (B ky) := (hrest 7 (bldD_lt 7 (by omega) (by omega)))
                  have x5 := getD_form e5
                  go_simp
                  exact hK _ _ rfl (Old.re _) hS
                rcases i with _ | i
                · obtain rfl := Option.some.inj ho
                  refine ⟨rfl, rfl, fun e W K hS hdf hrest hdep hlate hK => ?_⟩
                  clear hdf
                  have d4 : bldV b off l.length cap k nn pre ky c 4 (e.tmps.getD 64 undef) W := hdep ⟨4, .data⟩ (by simp) rfl
                  replace d4 : e.tmps.getD 64 undef = .string (B (ky)) := d4
                  have x4 := getD_form d4
                  go_simp
                  exact hK _ _ rfl (Old.re _) hS
                rcases i with _ | i
                · obtain rfl := Option.some.inj ho
                  refine ⟨rfl, rfl, fun e W K hS hdf hrest hdep hlate hK => ?_⟩
                  clear hdf
                  have e5 : e.tmps.getD 8 undef = .int .i64 (nn : Nat) := (hrest 8 (bldD_lt 8 (by omega) (by omega))).trans q8.out
                  have x5 := getD_form e5
                  go_simp
                  exact hK _ _ rfl (Old.re _) hS
                rcases i with _ | i
                · obtain rfl := Option.some.inj ho
                  refine ⟨rfl, rfl, fun e W K hS hdf hrest hdep hlate hK => ?_⟩
                  clear hdf
                  have d5 : bldV b off l.length cap k nn pre ky c 5 (e.tmps.getD 65 undef) W := hdep ⟨5, .data⟩ (by simp) rfl
                  replace d5 : e.tmps.getD 65 undef = .int .i64 (ky.length : Nat) := d5
                  have x5 := getD_form d5
                  have d6 : bldV b off l.length cap k nn pre ky c 6 (e.tmps.getD 66 undef) W := hdep ⟨6, .data⟩ (by simp) rfl
                  replace d6 : e.tmps.getD 66 undef = .int .i64 (nn : Nat) := d6
                  have x6 := getD_form d6
                  have hsub : ((ky.length : Nat) : Int) - ((nn : Nat) : Int) = ((ky.length - nn : Nat) : Int) := by omega
                  have hw : IntKind.i64.wrap ((ky.length - nn : Nat) : Int) = ((ky.length - nn : Nat) : Int) := by rw [IntKind.wrap_i64]; omega
                  go_simp
                  exact hK _ _ rfl (Old.re _) hS
                rcases i with _ | i
                · obtain rfl := Option.some.inj ho
                  refine ⟨rfl, rfl, fun e W K hS hdf hrest hdep hlate hK => ?_⟩
                  clear hdf
                  have d7 : bldV b off l.length cap k nn pre ky c 7 (e.tmps.getD 67 undef) W := hdep ⟨7, .data⟩ (by simp) rfl
                  replace d7 : e.tmps.getD 67 undef = .int .i64 (ky.length - nn : Nat) := d7
                  have x7 := getD_form d7
                  go_simp
                  refine (rtwo_any (ky.length - nn) _ (by omega)).mono ?_
                  rintro r W2 ⟨rfl, hO⟩
                  exact hK _ _ rfl hO (hS.old hO)
                rcases i with _ | i
                · obtain rfl := Option.some.inj ho
                  refine ⟨rfl, rfl, fun e W K hS hdf hrest hdep hlate hK => ?_⟩
                  clear hdf
                  have d3 : bldV b off l.length cap k nn pre ky c 3 (e.tmps.getD 63 undef) W := hdep ⟨3, .data⟩ (by simp) rfl
                  replace d3 : e.tmps.getD 63 undef = .string (B (pre ++ two nn)) := d3
                  have x3 := getD_form d3
                  have d8 : bldV b off l.length cap k nn pre ky c 8 (e.tmps.getD 68 undef) W := hdep ⟨8, .data⟩ (by simp) rfl
                  replace d8 : e.tmps.getD 68 undef = .string (B (two (ky.length - nn))) := d8
                  have x8 := getD_form d8
                  refine wp_addop d3 d8 (by simp [two, flag1_len]; omega) ?_
                  exact hK _ _ rfl (Old.re _) hS
                rcases i with _ | i
                · obtain rfl := Option.some.inj ho
                  refine ⟨rfl, rfl, fun e W K hS hdf hrest hdep hlate hK => ?_⟩
                  clear hdf
                  have e5 : e.tmps.getD 7 undef = .string (B ky) := (hrest 7 (bldD_lt 7 (by omega) (by omega)))
                  have x5 := getD_form e5
                  go_simp
                  exact hK _ _ rfl (Old.re _) hS
                rcases i with _ | i
                · obtain rfl := Option.some.inj ho
                  refine ⟨rfl, rfl, fun e W K hS hdf hrest hdep hlate hK => ?_⟩
                  clear hdf
                  have e5 : e.tmps.getD 8 undef = .int .i64 (nn : Nat) := (hrest 8 (bldD_lt 8 (by omega) (by omega))).trans q8.out
                  have x5 := getD_form e5
                  go_simp
                  exact hK _ _ rfl (Old.re _) hS
                rcases i with _ | i
                · obtain rfl := Option.some.inj ho
                  refine ⟨rfl, rfl, fun e W K hS hdf hrest hdep hlate hK => ?_⟩
                  clear hdf
                  have d10 : bldV b off l.length cap k nn pre ky c 10 (e.tmps.getD 70 undef) W := hdep ⟨10, .data⟩ (by simp) rfl
                  replace d10 : e.tmps.getD 70 undef = .string (B (ky)) := d10
                  have x10 := getD_form d10
                  have d11 : bldV b off l.length cap k nn pre ky c 11 (e.tmps.getD 71 undef) W := hdep ⟨11, .data⟩ (by simp) rfl
                  replace d11 : e.tmps.getD 71 undef = .int .i64 (nn : Nat) := d11
                  have x11 := getD_form d11
                  have hle : ((nn : Nat) : Int) ≤ ((ky.length : Nat) : Int) := by omega
                  have xd : (B ky).extract nn ky.length = B (ky.drop nn) := ext_drop _ _ _ (Nat.le_refl _)
                  go_simp
                  exact hK _ _ rfl (Old.re _) hS
                rcases i with _ | i
                · obtain rfl := Option.some.inj ho
                  refine ⟨rfl, rfl, fun e W K hS hdf hrest hdep hlate hK => ?_⟩
                  clear hdf
                  have d9 : bldV b off l.length cap k nn pre ky c 9 (e.tmps.getD 69 undef) W := hdep ⟨9, .data⟩ (by simp) rfl
                  replace d9 : e.tmps.getD 69 undef = .string (B (pre ++ two nn ++ two (ky.length - nn))) := d9
                  have x9 := getD_form d9
                  have d12 : bldV b off l.length cap k nn pre ky c 12 (e.tmps.getD 72 undef) W := hdep ⟨12, .data⟩ (by simp) rfl
                  replace d12 : e.tmps.getD 72 undef = .string (B (ky.drop nn)) := d12
                  have x12 := getD_form d12
                  refine wp_addop d9 d12 (by simp [two, flag1_len]; omega) ?_
                  exact hK _ _ rfl (Old.re _) hS
                rcases i with _ | i
                · obtain rfl := Option.some.inj ho
                  refine ⟨rfl, rfl, fun e W K hS hdf hrest hdep hlate hK => ?_⟩
                  clear hdf
                  have e5 : e.tmps.getD 9 undef = .int .u8 (delI c) := (hrest 9 (bldD_lt 9 (by omega) (by omega))).trans q9.out
                  have x5 := getD_form e5
                  go_simp
                  exact hK _ _ rfl (Old.re _) hS
                rcases i with _ | i
                · obtain rfl := Option.some.inj ho
                  refine ⟨rfl, rfl, fun e W K hS hdf hrest hdep hlate hK => ?_⟩
                  clear hdf
                  have e5 : e.tmps.getD 0 undef = .slice (some ⟨b, off, none⟩) l.length cap := (hrest 0 (bldD_lt 0 (by omega) (by omega)))
                  have x5 := getD_form e5
                  go_simp
                  exact hK _ _ rfl (Old.re _) hS
                rcases i with _ | i
                · obtain rfl := Option.some.inj ho
                  refine ⟨rfl, rfl, fun e W K hS hdf hrest hdep hlate hK => ?_⟩
                  clear hdf
                  have e5 : e.tmps.getD 6 undef = .int .i64 (k : Nat) := (hrest 6 (bldD_lt 6 (by omega) (by omega)))
                  have x5 := getD_form e5
                  go_simp
                  exact hK _ _ rfl (Old.re _) hS
                rcases i with _ | i
                · obtain rfl := Option.some.inj ho
                  refine ⟨rfl, rfl, fun e W K hS hdf hrest hdep hlate hK => ?_⟩
                  clear hdf
                  have d15 : bldV b off l.length cap k nn pre ky c 15 (e.tmps.getD 75 undef) W := hdep ⟨15, .data⟩ (by simp) rfl
                  replace d15 : e.tmps.getD 75 undef = .slice (some ⟨b, off, none⟩) l.length cap := d15
                  have x15 := getD_form d15
                  have d16 : bldV b off l.length cap k nn pre ky c 16 (e.tmps.getD 76 undef) W := hdep ⟨16, .data⟩ (by simp) rfl
                  replace d16 : e.tmps.getD 76 undef = .int .i64 (k : Nat) := d16
                  have x16 := getD_form d16
                  have hk1 : ((k : Nat) : Int) < ((l.length : Nat) : Int) := by omega
                  go_simp
                  exact hK _ _ rfl (Old.re _) hS
                rcases i with _ | i
                · obtain rfl := Option.some.inj ho
                  refine ⟨rfl, rfl, fun e W K hS hdf hrest hdep hlate hK => ?_⟩
                  clear hdf
                  have d17 : bldV b off l.length cap k nn pre ky c 17 (e.tmps.getD 77 undef) W := hdep ⟨17, .data⟩ (by simp) rfl
                  replace d17 : e.tmps.getD 77 undef = .pointer (some ⟨b, off + k * 6, none⟩) := d17
                  have x17 := getD_form d17
                  go_simp
                  exact hK _ _ rfl (Old.re _) hS
                rcases i with _ | i
                · obtain rfl := Option.some.inj ho
                  refine ⟨rfl, rfl, fun e W K hS hdf hrest hdep hlate hK => ?_⟩
                  clear hdf
                  have d18 : bldV b off l.length cap k nn pre ky c 18 (e.tmps.getD 78 undef) W := hdep ⟨18, .data⟩ (by simp) rfl
                  replace d18 : e.tmps.getD 78 undef = .pointer (some ⟨b, off + k * 6 + 5, none⟩) := d18
                  have x18 := getD_form d18
                  obtain ⟨f0, f1, f2, f3, f4, f5⟩ := hS.1.held
                  go_simp
                  exact hK _ _ rfl (Old.re _) hS
                rcases i with _ | i
                · obtain rfl := Option.some.inj ho
                  refine ⟨rfl, rfl, fun e W K hS hdf hrest hdep hlate hK => ?_⟩
                  clear hdf
                  have d19 : bldV b off l.length cap k nn pre ky c 19 (e.tmps.getD 79 undef) W := hdep ⟨19, .data⟩ (by simp) rfl
                  replace d19 : e.tmps.getD 79 undef = .string (B (c.val)) := d19
                  have x19 := getD_form d19
                  go_simp
                  exact hK _ _ rfl (Old.re _) hS
                rcases i with _ | i
                · obtain rfl := Option.some.inj ho
                  refine ⟨rfl, rfl, fun e W K hS hdf hrest hdep hlate hK => ?_⟩
                  clear hdf
                  have d20 : bldV b off l.length cap k nn pre ky c 20 (e.tmps.getD 80 undef) W := hdep ⟨20, .data⟩ (by simp) rfl
                  replace d20 : e.tmps.getD 80 undef = .int .i64 (c.val.length : Nat) := d20
                  have x20 := getD_form d20
                  have hw3 : IntKind.u8.wrap (c.val.length : Int) = (c.val.length : Int) := by rw [IntKind.wrap_u8]; omega
                  go_simp
                  exact hK _ _ rfl (Old.re _) hS
                rcases i with _ | i
                · obtain rfl := Option.some.inj ho
                  refine ⟨rfl, rfl, fun e W K hS hdf hrest hdep hlate hK => ?_⟩
                  clear hdf
                  have d14 : bldV b off l.length cap k nn pre ky c 14 (e.tmps.getD 74 undef) W := hdep ⟨14, .data⟩ (by simp) rfl
                  replace d14 : e.tmps.getD 74 undef = .int .u8 (delI c) := d14
                  have x14 := getD_form d14
                  have d21 : bldV b off l.length cap k nn pre ky c 21 (e.tmps.getD 81 undef) W := hdep ⟨21, .data⟩ (by simp) rfl
                  replace d21 : e.tmps.getD 81 undef = .int .u8 (c.val.length : Nat) := d21
                  have x21 := getD_form d21
                  go_simp
                  rw [flag_cells c c.val.length (by omega)]
                  exact hK _ _ ⟨W.heap.size, rfl, new_bk _ _ _⟩ ((Old.re _).al _) (hS.old ((Old.re _).al _))
                rcases i with _ | i
                · obtain rfl := Option.some.inj ho
                  refine ⟨rfl, rfl, fun e W K hS hdf hrest hdep hlate hK => ?_⟩
                  clear hdf
                  have d22 : bldV b off l.length cap k nn pre ky c 22 (e.tmps.getD 82 undef) W := hdep ⟨22, .data⟩ (by simp) rfl
                  obtain ⟨g22, d22, b22⟩ := d22
                  have x22 := getD_form d22
                  have hcv : (convert 56 9 (.slice (some ⟨g22, 0, none⟩) 2 2)).run Tryz.prog W = .ok (.string (B (flag1 c.del ++ [UInt8.ofNat c.val.length]))) W := by
                    have ho := Own.blk (base := 0) (Nat.zero_le _) b22 (by simp [flag1_len])
                    rw [show (flag1 c.del ++ [UInt8.ofNat c.val.length]).length = 2 by simp [flag1_len]] at ho
                    exact run_str ho
                  go_simp
                  exact hK _ _ rfl (Old.re _) hS
                rcases i with _ | i
                · obtain rfl := Option.some.inj ho
                  refine ⟨rfl, rfl, fun e W K hS hdf hrest hdep hlate hK => ?_⟩
                  clear hdf
                  have d13 : bldV b off l.length cap k nn pre ky c 13 (e.tmps.getD 73 undef) W := hdep ⟨13, .data⟩ (by simp) rfl
                  replace d13 : e.tmps.getD 73 undef = .string (B (pre ++ two nn ++ two (ky.length - nn) ++ ky.drop nn)) := d13
                  have x13 := getD_form d13
                  have d23 : bldV b off l.length cap k nn pre ky c 23 (e.tmps.getD 83 undef) W := hdep ⟨23, .data⟩ (by simp) rfl
                  replace d23 : e.tmps.getD 83 undef = .string (B (flag1 c.del ++ [UInt8.ofNat c.val.length])) := d23
                  have x23 := getD_form d23
                  refine wp_addop d13 d23 (by simp [two, flag1_len]; omega) ?_
                  exact hK _ _ rfl (Old.re _) hS
                rcases i with _ | i
                · obtain rfl := Option.some.inj ho
                  refine ⟨rfl, rfl, fun e W K hS hdf hrest hdep hlate hK => ?_⟩
                  clear hdf
                  have e5 : e.tmps.getD 0 undef = .slice (some ⟨b, off, none⟩) l.length cap := (hrest 0 (bldD_lt 0 (by omega) (by omega)))
                  have x5 := getD_form e5
                  go_simp
                  exact hK _ _ rfl (Old.re _) hS
                rcases i with _ | i
                · obtain rfl := Option.some.inj ho
                  refine ⟨rfl, rfl, fun e W K hS hdf hrest hdep hlate hK => ?_⟩
                  clear hdf
                  have e5 : e.tmps.getD 6 undef = .int .i64 (k : Nat) := (hrest 6 (bldD_lt 6 (by omega) (by omega)))
                  have x5 := getD_form e5
                  go_simp
                  exact hK _ _ rfl (Old.re _) hS
                rcases i with _ | i
                · obtain rfl := Option.some.inj ho
                  refine ⟨rfl, rfl, fun e W K hS hdf hrest hdep hlate hK => ?_⟩
                  clear hdf
                  have d25 : bldV b off l.length cap k nn pre ky c 25 (e.tmps.getD 85 undef) W := hdep ⟨25, .data⟩ (by simp) rfl
                  replace d25 : e.tmps.getD 85 undef = .slice (some ⟨b, off, none⟩) l.length cap := d25
                  have x25 := getD_form d25
                  have d26 : bldV b off l.length cap k nn pre ky c 26 (e.tmps.getD 86 undef) W := hdep ⟨26, .data⟩ (by simp) rfl
                  replace d26 : e.tmps.getD 86 undef = .int .i64 (k : Nat) := d26
                  have x26 := getD_form d26
                  have hk1 : ((k : Nat) : Int) < ((l.length : Nat) : Int) := by omega
                  go_simp
                  exact hK _ _ rfl (Old.re _) hS
                rcases i with _ | i
                · obtain rfl := Option.some.inj ho
                  refine ⟨rfl, rfl, fun e W K hS hdf hrest hdep hlate hK => ?_⟩
                  clear hdf
                  have d27 : bldV b off l.length cap k nn pre ky c 27 (e.tmps.getD 87 undef) W := hdep ⟨27, .data⟩ (by simp) rfl
                  replace d27 : e.tmps.getD 87 undef = .pointer (some ⟨b, off + k * 6, none⟩) := d27
                  have x27 := getD_form d27
                  go_simp
                  exact hK _ _ rfl (Old.re _) hS
                rcases i with _ | i
                · obtain rfl := Option.some.inj ho
                  refine ⟨rfl, rfl, fun e W K hS hdf hrest hdep hlate hK => ?_⟩
                  clear hdf
                  have d28 : bldV b off l.length cap k nn pre ky c 28 (e.tmps.getD 88 undef) W := hdep ⟨28, .data⟩ (by simp) rfl
                  replace d28 : e.tmps.getD 88 undef = .pointer (some ⟨b, off + k * 6 + 5, none⟩) := d28
                  have x28 := getD_form d28
                  obtain ⟨f0, f1, f2, f3, f4, f5⟩ := hS.1.held
                  go_simp
                  exact hK _ _ rfl (Old.re _) hS
                rcases i with _ | i
                · obtain rfl := Option.some.inj ho
                  refine ⟨rfl, rfl, fun e W K hS hdf hrest hdep hlate hK => ?_⟩
                  clear hdf
                  have d24 : bldV b off l.length cap k nn pre ky c 24 (e.tmps.getD 84 undef) W := hdep ⟨24, .data⟩ (by simp) rfl
                  replace d24 : e.tmps.getD 84 undef = .string (B (pre ++ two nn ++ two (ky.length - nn) ++ ky.drop nn ++ (flag1 c.del ++ [UInt8.ofNat c.val.length]))) := d24
                  have x24 := getD_form d24
                  have d29 : bldV b off l.length cap k nn pre ky c 29 (e.tmps.getD 89 undef) W := hdep ⟨29, .data⟩ (by simp) rfl
                  replace d29 : e.tmps.getD 89 undef = .string (B (c.val)) := d29
                  have x29 := getD_form d29
                  refine wp_addop d24 d29 (by simp [two, flag1_len]; omega) ?_
                  exact hK _ _ rfl (Old.re _) hS
                rcases i with _ | i
                · obtain rfl := Option.some.inj ho
                  refine ⟨rfl, rfl, fun e W K hS hdf hrest hdep hlate hK => ?_⟩
                  clear hdf
                  have d30 : bldV b off l.length cap k nn pre ky c 30 (e.tmps.getD 90 undef) W := hdep ⟨30, .data⟩ (by simp) rfl
                  replace d30 : e.tmps.getD 90 undef = .string (B (pre ++ two nn ++ two (ky.length - nn) ++ ky.drop nn ++ (flag1 c.del ++ [UInt8.ofNat c.val.length]) ++ c.val)) := d30
                  have x30 := getD_form d30
                  clear d30
                  generalize hP : pre ++ two nn ++ two (ky.length - nn) ++ ky.drop nn ++ (flag1 c.del ++ [UInt8.ofNat c.val.length]) ++ c.val = P at x30
                  go_simp
                  exact hK _ _ (by rw [← hP]; rfl) (Old.re _) hS
                simp at ho
              · rw [hd] at f4
                have q9 := Lib.hid (show (Value.int .u8 1) = .int .u8 (delI c) by simp [delI, hd])
                clear hd
                go_wp2_with fail
                refine wp_region_runs (by kernel_rfl) (bldS w b off k c) (bldV b off l.length cap k nn pre ky c) bldD 32 rfl (by kernel_rfl) ?ra1 ?rb1 (bldV_stab b off l.length cap k nn pre ky c) (SS.old (Old.re _).dr) ?rc1 ?rd1
                case ra1 => (intro i hi; simp only [List.size_toArray, List.length_cons, List.length_nil]; unfold bldD; split <;> omega)
                case rb1 => (intro i j hi hj h; unfold bldD at h; split at h <;> split at h <;> omega)
                case rd1 =>
                  intro e W hS hdf hsz hrest hall
                  have r5 : e.tmps.getD 5 undef = .string (B (pre ++ two nn ++ two (ky.length - nn) ++ ky.drop nn ++ (flag1 c.del ++ [UInt8.ofNat c.val.length]) ++ c.val)) := hall 31 (by omega)
                  have r0 : e.tmps.getD 0 undef = .slice (some ⟨b, off, none⟩) l.length cap := hrest 0 (bldD_lt 0 (by omega) (by omega))
                  have r6 : e.tmps.getD 6 undef = .int .i64 (k : Nat) := hrest 6 (bldD_lt 6 (by omega) (by omega))
                  generalize hP : pre ++ two nn ++ two (ky.length - nn) ++ ky.drop nn ++ (flag1 c.del ++ [UInt8.ofNat c.val.length]) ++ c.val = P at r5
                  have HP := Lib.hid hP
                  clear hP
                  have r1 := hrest 1 (bldD_lt 1 (by omega) (by omega))
                  conv at r1 => rhs; whnf
                  try change _ = undef at r1
                  have r2 := hrest 2 (bldD_lt 2 (by omega) (by omega))
                  conv at r2 => rhs; whnf
                  try change _ = undef at r2
                  have r3 := hrest 3 (bldD_lt 3 (by omega) (by omega))
                  conv at r3 => rhs; whnf
                  try change _ = undef at r3
                  have r4 := hrest 4 (bldD_lt 4 (by omega) (by omega))
                  conv at r4 => rhs; whnf
                  try change _ = undef at r4
                  have r7 := hrest 7 (bldD_lt 7 (by omega) (by omega))
                  conv at r7 => rhs; whnf
                  try change _ = undef at r7
                  have r8 := hrest 8 (bldD_lt 8 (by omega) (by omega))
                  conv at r8 => rhs; whnf
                  try change _ = undef at r8
                  have r9 := hrest 9 (bldD_lt 9 (by omega) (by omega))
                  conv at r9 => rhs; whnf
                  try change _ = undef at r9
                  have r10 := hrest 10 (bldD_lt 10 (by omega) (by omega))
                  conv at r10 => rhs; whnf
                  try change _ = undef at r10
                  have r11 := hrest 11 (bldD_lt 11 (by omega) (by omega))
                  conv at r11 => rhs; whnf
                  try change _ = undef at r11
                  have r12 := hrest 12 (bldD_lt 12 (by omega) (by omega))
                  conv at r12 => rhs; whnf
                  try change _ = undef at r12
                  have r13 := hrest 13 (bldD_lt 13 (by omega) (by omega))
                  conv at r13 => rhs; whnf
                  try change _ = undef at r13
                  have r14 := hrest 14 (bldD_lt 14 (by omega) (by omega))
                  conv at r14 => rhs; whnf
                  try change _ = undef at r14
                  have r15 := hrest 15 (bldD_lt 15 (by omega) (by omega))
                  conv at r15 => rhs; whnf
                  try change _ = undef at r15
                  have r16 := hrest 16 (bldD_lt 16 (by omega) (by omega))
                  conv at r16 => rhs; whnf
                  try change _ = undef at r16
                  have r17 := hrest 17 (bldD_lt 17 (by omega) (by omega))
                  conv at r17 => rhs; whnf
                  try change _ = undef at r17
                  have r18 := hrest 18 (bldD_lt 18 (by omega) (by omega))
                  conv at r18 => rhs; whnf
                  try change _ = undef at r18
                  have r19 := hrest 19 (bldD_lt 19 (by omega) (by omega))
                  conv at r19 => rhs; whnf
                  try change _ = undef at r19
                  have r20 := hrest 20 (bldD_lt 20 (by omega) (by omega))
                  conv at r20 => rhs; whnf
                  try change _ = undef at r20
                  have r21 := hrest 21 (bldD_lt 21 (by omega) (by omega))
                  conv at r21 => rhs; whnf
                  try change _ = undef at r21
                  have r22 := hrest 22 (bldD_lt 22 (by omega) (by omega))
                  conv at r22 => rhs; whnf
                  try change _ = undef at r22
                  have r23 := hrest 23 (bldD_lt 23 (by omega) (by omega))
                  conv at r23 => rhs; whnf
                  try change _ = undef at r23
                  have r24 := hrest 24 (bldD_lt 24 (by omega) (by omega))
                  conv at r24 => rhs; whnf
                  try change _ = undef at r24
                  have r25 := hrest 25 (bldD_lt 25 (by omega) (by omega))
                  conv at r25 => rhs; whnf
                  try change _ = undef at r25
                  have r26 := hrest 26 (bldD_lt 26 (by omega) (by omega))
                  conv at r26 => rhs; whnf
                  try change _ = undef at r26
                  have r27 := hrest 27 (bldD_lt 27 (by omega) (by omega))
                  conv at r27 => rhs; whnf
                  try change _ = undef at r27
                  have r28 := hrest 28 (bldD_lt 28 (by omega) (by omega))
                  conv at r28 => rhs; whnf
                  try change _ = undef at r28
                  have r29 := hrest 29 (bldD_lt 29 (by omega) (by omega))
                  conv at r29 => rhs; whnf
                  try change _ = undef at r29
                  have r30 := hrest 30 (bldD_lt 30 (by omega) (by omega))
                  conv at r30 => rhs; whnf
                  try change _ = undef at r30
                  have r31 := hrest 31 (bldD_lt 31 (by omega) (by omega))
                  conv at r31 => rhs; whnf
                  try change _ = undef at r31
                  have r32 := hrest 32 (bldD_lt 32 (by omega) (by omega))
                  conv at r32 => rhs; whnf
                  try change _ = undef at r32
                  have r33 := hrest 33 (bldD_lt 33 (by omega) (by omega))
                  conv at r33 => rhs; whnf
                  try change _ = undef at r33
                  have r34 := hrest 34 (bldD_lt 34 (by omega) (by omega))
                  conv at r34 => rhs; whnf
                  try change _ = undef at r34
                  have r35 := hrest 35 (bldD_lt 35 (by omega) (by omega))
                  conv at r35 => rhs; whnf
                  try change _ = undef at r35
                  have r36 := hrest 36 (bldD_lt 36 (by omega) (by omega))
                  conv at r36 => rhs; whnf
                  try change _ = undef at r36
                  have r37 := hrest 37 (bldD_lt 37 (by omega) (by omega))
                  conv at r37 => rhs; whnf
                  try change _ = undef at r37
                  have r38 := hrest 38 (bldD_lt 38 (by omega) (by omega))
                  conv at r38 => rhs; whnf
                  try change _ = undef at r38
                  have r39 := hrest 39 (bldD_lt 39 (by omega) (by omega))
                  conv at r39 => rhs; whnf
                  try change _ = undef at r39
                  have r40 := hrest 40 (bldD_lt 40 (by omega) (by omega))
                  conv at r40 => rhs; whnf
                  try change _ = undef at r40
                  have r41 := hrest 41 (bldD_lt 41 (by omega) (by omega))
                  conv at r41 => rhs; whnf
                  try change _ = undef at r41
                  have r42 := hrest 42 (bldD_lt 42 (by omega) (by omega))
                  conv at r42 => rhs; whnf
                  try change _ = undef at r42
                  have r43 := hrest 43 (bldD_lt 43 (by omega) (by omega))
                  conv at r43 => rhs; whnf
                  try change _ = undef at r43
                  have r44 := hrest 44 (bldD_lt 44 (by omega) (by omega))
                  conv at r44 => rhs; whnf
                  try change _ = undef at r44
                  have r45 := hrest 45 (bldD_lt 45 (by omega) (by omega))
                  conv at r45 => rhs; whnf
                  try change _ = undef at r45
                  have r46 := hrest 46 (bldD_lt 46 (by omega) (by omega))
                  conv at r46 => rhs; whnf
                  try change _ = undef at r46
                  have r47 := hrest 47 (bldD_lt 47 (by omega) (by omega))
                  conv at r47 => rhs; whnf
                  try change _ = undef at r47
                  have r48 := hrest 48 (bldD_lt 48 (by omega) (by omega))
                  conv at r48 => rhs; whnf
                  try change _ = undef at r48
                  have r49 := hrest 49 (bldD_lt 49 (by omega) (by omega))
                  conv at r49 => rhs; whnf
                  try change _ = undef at r49
                  have r50 := hrest 50 (bldD_lt 50 (by omega) (by omega))
                  conv at r50 => rhs; whnf
                  try change _ = undef at r50
                  have r51 := hrest 51 (bldD_lt 51 (by omega) (by omega))
                  conv at r51 => rhs; whnf
                  try change _ = undef at r51
                  have r52 := hrest 52 (bldD_lt 52 (by omega) (by omega))
                  conv at r52 => rhs; whnf
                  try change _ = undef at r52
                  have r53 := hrest 53 (bldD_lt 53 (by omega) (by omega))
                  conv at r53 => rhs; whnf
                  try change _ = undef at r53
                  have r54 := hrest 54 (bldD_lt 54 (by omega) (by omega))
                  conv at r54 => rhs; whnf
                  try change _ = undef at r54
                  have r55 := hrest 55 (bldD_lt 55 (by omega) (by omega))
                  conv at r55 => rhs; whnf
                  try change _ = undef at r55
                  have r56 := hrest 56 (bldD_lt 56 (by omega) (by omega))
                  conv at r56 => rhs; whnf
                  try change _ = undef at r56
                  have r57 := hrest 57 (bldD_lt 57 (by omega) (by omega))
                  conv at r57 => rhs; whnf
                  try change _ = undef at r57
                  have r58 := hrest 58 (bldD_lt 58 (by omega) (by omega))
                  conv at r58 => rhs; whnf
                  try change _ = undef at r58
                  have r59 := hrest 59 (bldD_lt 59 (by omega) (by omega))
                  conv at r59 => rhs; whnf
                  try change _ = undef at r59
                  have r91 := hrest 91 bldD_91
                  conv at r91 => rhs; whnf
                  try change _ = undef at r91
                  clear hrest hall
                  obtain ⟨bt, bd⟩ := e
                  simp only at hdf hsz
                  subst hdf
                  have hlit := arr_lit bt hsz
                  rw [r0, r1, r2, r3, r4, r5, r6, r7, r8, r9, r10, r11, r12, r13, r14, r15, r16, r17, r18, r19, r20, r21, r22, r23, r24, r25, r26, r27, r28, r29, r30, r31, r32, r33, r34, r35, r36, r37, r38, r39, r40, r41, r42, r43, r44, r45, r46, r47, r48, r49, r50, r51, r52, r53, r54, r55, r56, r57, r58, r59, r91] at hlit
                  clear r0 r1 r2 r3 r4 r5 r6 r7 r8 r9 r10 r11 r12 r13 r14 r15 r16 r17 r18 r19 r20 r21 r22 r23 r24 r25 r26 r27 r28 r29 r30 r31 r32 r33 r34 r35 r36 r37 r38 r39 r40 r41 r42 r43 r44 r45 r46 r47 r48 r49 r50 r51 r52 r53 r54 r55 r56 r57 r58 r59 r91 hsz
                  generalize bt.getD 60 undef = u60 at hlit
                  generalize bt.getD 61 undef = u61 at hlit
                  generalize bt.getD 62 undef = u62 at hlit
                  generalize bt.getD 63 undef = u63 at hlit
                  generalize bt.getD 64 undef = u64 at hlit
                  generalize bt.getD 65 undef = u65 at hlit
                  generalize bt.getD 66 undef = u66 at hlit
                  generalize bt.getD 67 undef = u67 at hlit
                  generalize bt.getD 68 undef = u68 at hlit
                  generalize bt.getD 69 undef = u69 at hlit
                  generalize bt.getD 70 undef = u70 at hlit
                  generalize bt.getD 71 undef = u71 at hlit
                  generalize bt.getD 72 undef = u72 at hlit
                  generalize bt.getD 73 undef = u73 at hlit
                  generalize bt.getD 74 undef = u74 at hlit
                  generalize bt.getD 75 undef = u75 at hlit
                  generalize bt.getD 76 undef = u76 at hlit
                  generalize bt.getD 77 undef = u77 at hlit
                  generalize bt.getD 78 undef = u78 at hlit
                  generalize bt.getD 79 undef = u79 at hlit
                  generalize bt.getD 80 undef = u80 at hlit
                  generalize bt.getD 81 undef = u81 at hlit
                  generalize bt.getD 82 undef = u82 at hlit
                  generalize bt.getD 83 undef = u83 at hlit
                  generalize bt.getD 84 undef = u84 at hlit
                  generalize bt.getD 85 undef = u85 at hlit
                  generalize bt.getD 86 undef = u86 at hlit
                  generalize bt.getD 87 undef = u87 at hlit
                  generalize bt.getD 88 undef = u88 at hlit
                  generalize bt.getD 89 undef = u89 at hlit
                  generalize bt.getD 90 undef = u90 at hlit
                  subst hlit
                  have h9 := hS.2
                  clear hS
                  go_wp2
                  go_roundw
                  case rel =>
                    refine ⟨k + 1, _, ky, by omega, rfl, by go_num, h9, ?_, hkl2, Lib.hid ?_, Lib.hid ?_⟩
                    · have := hel; rw [hent.out] at this; rw [← HP.out]; simp at this ⊢; omega
                    · intro _; exact ⟨c, by rw [Nat.add_sub_cancel]; exact HG.out, HK.out⟩
                    · rw [HB.out, HD.out, entsFrom, hent.out, ← HK.out, ← HP.out]
                      simp
                  case measure => simp [intOf]; omega
                intro i o ho
                rcases i with _ | i
                · obtain rfl := Option.some.inj ho
                  refine ⟨rfl, rfl, fun e W K hS hdf hrest hdep hlate hK => ?_⟩
                  clear hdf
                  have e5 : e.tmps.getD 5 undef = .string (B pre) := (hlate 31 _ rfl ⟨⟨0, .phase⟩, by simp, rfl, rfl⟩)
                  have x5 := getD_form e5
                  go_simp
                  exact hK _ _ rfl (Old.re _) hS
                rcases i with _ | i
                · obtain rfl := Option.some.inj ho
                  refine ⟨rfl, rfl, fun e W K hS hdf hrest hdep hlate hK => ?_⟩
                  clear hdf
                  have e5 : e.tmps.getD 8 undef = .int .i64 (nn : Nat) := (hrest 8 (bldD_lt 8 (by omega) (by omega))).trans q8.out
                  have x5 := getD_form e5
                  go_simp
                  exact hK _ _ rfl (Old.re _) hS
                rcases i with _ | i
                · obtain rfl := Option.some.inj ho
                  refine ⟨rfl, rfl, fun e W K hS hdf hrest hdep hlate hK => ?_⟩
                  clear hdf
                  have d1 : bldV b off l.length cap k nn pre ky c 1 (e.tmps.getD 61 undef) W := hdep ⟨1, .data⟩ (by simp) rfl
                  replace d1 : e.tmps.getD 61 undef = .int .i64 (nn : Nat) := d1
                  have x1 := getD_form d1
                  go_simp
                  refine (rtwo_any nn _ (by omega)).mono ?_
                  rintro r W2 ⟨rfl, hO⟩
                  exact hK _ _ rfl hO (hS.old hO)
                rcases i with _ | i
                · obtain rfl := Option.some.inj ho
                  refine ⟨rfl, rfl, fun e W K hS hdf hrest hdep hlate hK => ?_⟩
                  clear hdf
                  have d0 : bldV b off l.length cap k nn pre ky c 0 (e.tmps.getD 60 undef) W := hdep ⟨0, .data⟩ (by simp) rfl
                  replace d0 : e.tmps.getD 60 undef = .string (B (pre)) := d0
                  have x0 := getD_form d0
                  have d2 : bldV b off l.length cap k nn pre ky c 2 (e.tmps.getD 62 undef) W := hdep ⟨2, .data⟩ (by simp) rfl
                  replace d2 : e.tmps.getD 62 undef = .string (B (two nn)) := d2
                  have x2 := getD_form d2
                  refine wp_addop d0 d2 (by simp [two, flag1_len]; omega) ?_
                  exact hK _ _ rfl (Old.re _) hS
                rcases i with _ | i
                · obtain rfl := Option.some.inj ho
                  refine ⟨rfl, rfl, fun e W K hS hdf hrest hdep hlate hK => ?_⟩
                  clear hdf
                  have e5 : e.tmps.getD 7 undef = .string (B ky) := (hrest 7 (bldD_lt 7 (by omega) (by omega)))
                  have x5 := getD_form e5
                  go_simp
                  exact hK _ _ rfl (Old.re _) hS
                rcases i with _ | i
                · obtain rfl := Option.some.inj ho
                  refine ⟨rfl, rfl, fun e W K hS hdf hrest hdep hlate hK => ?_⟩
                  clear hdf
                  have d4 : bldV b off l.length cap k nn pre ky c 4 (e.tmps.getD 64 undef) W := hdep ⟨4, .data⟩ (by simp) rfl
                  replace d4 : e.tmps.getD 64 undef = .string (B (ky)) := d4
                  have x4 := getD_form d4
                  go_simp
                  exact hK _ _ rfl (Old.re _) hS
                rcases i with _ | i
                · obtain rfl := Option.some.inj ho
                  refine ⟨rfl, rfl, fun e W K hS hdf hrest hdep hlate hK => ?_⟩
                  clear hdf
                  have e5 : e.tmps.getD 8 undef = .int .i64 (nn : Nat) := (hrest 8 (bldD_lt 8 (by omega) (by omega))).trans q8.out
                  have x5 := getD_form e5
                  go_simp
                  exact hK _ _ rfl (Old.re _) hS
                rcases i with _ | i
                · obtain rfl := Option.some.inj ho
                  refine ⟨rfl, rfl, fun e W K hS hdf hrest hdep hlate hK => ?_⟩
                  clear hdf
                  have d5 : bldV b off l.length cap k nn pre ky c 5 (e.tmps.getD 65 undef) W := hdep ⟨5, .data⟩ (by simp) rfl
                  replace d5 : e.tmps.getD 65 undef = .int .i64 (ky.length : Nat) := d5
                  have x5 := getD_form d5
                  have d6 : bldV b off l.length cap k nn pre ky c 6 (e.tmps.getD 66 undef) W := hdep ⟨6, .data⟩ (by simp) rfl
                  replace d6 : e.tmps.getD 66 undef = .int .i64 (nn : Nat) := d6
                  have x6 := getD_form d6
                  have hsub : ((ky.length : Nat) : Int) - ((nn : Nat) : Int) = ((ky.length - nn : Nat) : Int) := by omega
                  have hw : IntKind.i64.wrap ((ky.length - nn : Nat) : Int) = ((ky.length - nn : Nat) : Int) := by rw [IntKind.wrap_i64]; omega
                  go_simp
                  exact hK _ _ rfl (Old.re _) hS
                rcases i with _ | i
                · obtain rfl := Option.some.inj ho
                  refine ⟨rfl, rfl, fun e W K hS hdf hrest hdep hlate hK => ?_⟩
                  clear hdf
                  have d7 : bldV b off l.length cap k nn pre ky c 7 (e.tmps.getD 67 undef) W := hdep ⟨7, .data⟩ (by simp) rfl
                  replace d7 : e.tmps.getD 67 undef = .int .i64 (ky.length - nn : Nat) := d7
                  have x7 := getD_form d7
                  go_simp
                  refine (rtwo_any (ky.length - nn) _ (by omega)).mono ?_
                  rintro r W2 ⟨rfl, hO⟩
                  exact hK _ _ rfl hO (hS.old hO)
                rcases i with _ | i
                · obtain rfl := Option.some.inj ho
                  refine ⟨rfl, rfl, fun e W K hS hdf hrest hdep hlate hK => ?_⟩
                  clear hdf
                  have d3 : bldV b off l.length cap k nn pre ky c 3 (e.tmps.getD 63 undef) W := hdep ⟨3, .data⟩ (by simp) rfl
                  replace d3 : e.tmps.getD 63 undef = .string (B (pre ++ two nn)) := d3
                  have x3 := getD_form d3
                  have d8 : bldV b off l.length cap k nn pre ky c 8 (e.tmps.getD 68 undef) W := hdep ⟨8, .data⟩ (by simp) rfl
                  replace d8 : e.tmps.getD 68 undef = .string (B (two (ky.length - nn))) := d8
                  have x8 := getD_form d8
                  refine wp_addop d3 d8 (by simp [two, flag1_len]; omega) ?_
                  exact hK _ _ rfl (Old.re _) hS
                rcases i with _ | i
                · obtain rfl := Option.some.inj ho
                  refine ⟨rfl, rfl, fun e W K hS hdf hrest hdep hlate hK => ?_⟩
                  clear hdf
                  have e5 : e.tmps.getD 7 undef = .string (B ky) := (hrest 7 (bldD_lt 7 (by omega) (by omega)))
                  have x5 := getD_form e5
                  go_simp
                  exact hK _ _ rfl (Old.re _) hS
                rcases i with _ | i
                · obtain rfl := Option.some.inj ho
                  refine ⟨rfl, rfl, fun e W K hS hdf hrest hdep hlate hK => ?_⟩
                  clear hdf
                  have e5 : e.tmps.getD 8 undef = .int .i64 (nn : Nat) := (hrest 8 (bldD_lt 8 (by omega) (by omega))).trans q8.out
                  have x5 := getD_form e5
                  go_simp
                  exact hK _ _ rfl (Old.re _) hS
                rcases i with _ | i
                · obtain rfl := Option.some.inj ho
                  refine ⟨rfl, rfl, fun e W K hS hdf hrest hdep hlate hK => ?_⟩
                  clear hdf
                  have d10 : bldV b off l.length cap k nn pre ky c 10 (e.tmps.getD 70 undef) W := hdep ⟨10, .data⟩ (by simp) rfl
                  replace d10 : e.tmps.getD 70 undef = .string (B (ky)) := d10
                  have x10 := getD_form d10
                  have d11 : bldV b off l.length cap k nn pre ky c 11 (e.tmps.getD 71 undef) W := hdep ⟨11, .data⟩ (by simp) rfl
                  replace d11 : e.tmps.getD 71 undef = .int .i64 (nn : Nat) := d11
                  have x11 := getD_form d11
                  have hle : ((nn : Nat) : Int) ≤ ((ky.length : Nat) : Int) := by omega
                  have xd : (B ky).extract nn ky.length = B (ky.drop nn) := ext_drop _ _ _ (Nat.le_refl _)
                  go_simp
                  exact hK _ _ rfl (Old.re _) hS
                rcases i with _ | i
                · obtain rfl := Option.some.inj ho
                  refine ⟨rfl, rfl, fun e W K hS hdf hrest hdep hlate hK => ?_⟩
                  clear hdf
                  have d9 : bldV b off l.length cap k nn pre ky c 9 (e.tmps.getD 69 undef) W := hdep ⟨9, .data⟩ (by simp) rfl
                  replace d9 : e.tmps.getD 69 undef = .string (B (pre ++ two nn ++ two (ky.length - nn))) := d9
                  have x9 := getD_form d9
                  have d12 : bldV b off l.length cap k nn pre ky c 12 (e.tmps.getD 72 undef) W := hdep ⟨12, .data⟩ (by simp) rfl
                  replace d12 : e.tmps.getD 72 undef = .string (B (ky.drop nn)) := d12
                  have x12 := getD_form d12
                  refine wp_addop d9 d12 (by simp [two, flag1_len]; omega) ?_
                  exact hK _ _ rfl (Old.re _) hS
                rcases i with _ | i
                · obtain rfl := Option.some.inj ho
                  refine ⟨rfl, rfl, fun e W K hS hdf hrest hdep hlate hK => ?_⟩
                  clear hdf
                  have e5 : e.tmps.getD 9 undef = .int .u8 (delI c) := (hrest 9 (bldD_lt 9 (by omega) (by omega))).trans q9.out
                  have x5 := getD_form e5
                  go_simp
                  exact hK _ _ rfl (Old.re _) hS
                rcases i with _ | i
                · obtain rfl := Option.some.inj ho
                  refine ⟨rfl, rfl, fun e W K hS hdf hrest hdep hlate hK => ?_⟩
                  clear hdf
                  have e5 : e.tmps.getD 0 undef = .slice (some ⟨b, off, none⟩) l.length cap := (hrest 0 (bldD_lt 0 (by omega) (by omega)))
                  have x5 := getD_form e5
                  go_simp
                  exact hK _ _ rfl (Old.re _) hS
                rcases i with _ | i
                · obtain rfl := Option.some.inj ho
                  refine ⟨rfl, rfl, fun e W K hS hdf hrest hdep hlate hK => ?_⟩
                  clear hdf
                  have e5 : e.tmps.getD 6 undef = .int .i64 (k : Nat) := (hrest 6 (bldD_lt 6 (by omega) (by omega)))
                  have x5 := getD_form e5
                  go_simp
                  exact hK _ _ rfl (Old.re _) hS
                rcases i with _ | i
                · obtain rfl := Option.some.inj ho
                  refine ⟨rfl, rfl, fun e W K hS hdf hrest hdep hlate hK => ?_⟩
                  clear hdf
                  have d15 : bldV b off l.length cap k nn pre ky c 15 (e.tmps.getD 75 undef) W := hdep ⟨15, .data⟩ (by simp) rfl
                  replace d15 : e.tmps.getD 75 undef = .slice (some ⟨b, off, none⟩) l.length cap := d15
                  have x15 := getD_form d15
                  have d16 : bldV b off l.length cap k nn pre ky c 16 (e.tmps.getD 76 undef) W := hdep ⟨16, .data⟩ (by simp) rfl
                  replace d16 : e.tmps.getD 76 undef = .int .i64 (k : Nat) := d16
                  have x16 := getD_form d16
                  have hk1 : ((k : Nat) : Int) < ((l.length : Nat) : Int) := by omega
                  go_simp
                  exact hK _ _ rfl (Old.re _) hS
                rcases i with _ | i
                · obtain rfl := Option.some.inj ho
                  refine ⟨rfl, rfl, fun e W K hS hdf hrest hdep hlate hK => ?_⟩
                  clear hdf
                  have d17 : bldV b off l.length cap k nn pre ky c 17 (e.tmps.getD 77 undef) W := hdep ⟨17, .data⟩ (by simp) rfl
                  replace d17 : e.tmps.getD 77 undef = .pointer (some ⟨b, off + k * 6, none⟩) := d17
                  have x17 := getD_form d17
                  go_simp
                  exact hK _ _ rfl (Old.re _) hS
                rcases i with _ | i
                · obtain rfl := Option.some.inj ho
                  refine ⟨rfl, rfl, fun e W K hS hdf hrest hdep hlate hK => ?_⟩
                  clear hdf
                  have d18 : bldV b off l.length cap k nn pre ky c 18 (e.tmps.getD 78 undef) W := hdep ⟨18, .data⟩ (by simp) rfl
                  replace d18 : e.tmps.getD 78 undef = .pointer (some ⟨b, off + k * 6 + 5, none⟩) := d18
                  have x18 := getD_form d18
                  obtain ⟨f0, f1, f2, f3, f4, f5⟩ := hS.1.held
                  go_simp
                  exact hK _ _ rfl (Old.re _) hS
                rcases i with _ | i
                · obtain rfl := Option.some.inj ho
                  refine ⟨rfl, rfl, fun e W K hS hdf hrest hdep hlate hK => ?_⟩
                  clear hdf
                  have d19 : bldV b off l.length cap k nn pre ky c 19 (e.tmps.getD 79 undef) W := hdep ⟨19, .data⟩ (by simp) rfl
                  replace d19 : e.tmps.getD 79 undef = .string (B (c.val)) := d19
                  have x19 := getD_form d19
                  go_simp
                  exact hK _ _ rfl (Old.re _) hS
                rcases i with _ | i
                · obtain rfl := Option.some.inj ho
                  refine ⟨rfl, rfl, fun e W K hS hdf hrest hdep hlate hK => ?_⟩
                  clear hdf
                  have d20 : bldV b off l.length cap k nn pre ky c 20 (e.tmps.getD 80 undef) W := hdep ⟨20, .data⟩ (by simp) rfl
                  replace d20 : e.tmps.getD 80 undef = .int .i64 (c.val.length : Nat) := d20
                  have x20 := getD_form d20
                  have hw3 : IntKind.u8.wrap (c.val.length : Int) = (c.val.length : Int) := by rw [IntKind.wrap_u8]; omega
                  go_simp
                  exact hK _ _ rfl (Old.re _) hS
                rcases i with _ | i
                · obtain rfl := Option.some.inj ho
                  refine ⟨rfl, rfl, fun e W K hS hdf hrest hdep hlate hK => ?_⟩
                  clear hdf
                  have d14 : bldV b off l.length cap k nn pre ky c 14 (e.tmps.getD 74 undef) W := hdep ⟨14, .data⟩ (by simp) rfl
                  replace d14 : e.tmps.getD 74 undef = .int .u8 (delI c) := d14
                  have x14 := getD_form d14
                  have d21 : bldV b off l.length cap k nn pre ky c 21 (e.tmps.getD 81 undef) W := hdep ⟨21, .data⟩ (by simp) rfl
                  replace d21 : e.tmps.getD 81 undef = .int .u8 (c.val.length : Nat) := d21
                  have x21 := getD_form d21
                  go_simp
                  rw [flag_cells c c.val.length (by omega)]
                  exact hK _ _ ⟨W.heap.size, rfl, new_bk _ _ _⟩ ((Old.re _).al _) (hS.old ((Old.re _).al _))
                rcases i with _ | i
                · obtain rfl := Option.some.inj ho
                  refine ⟨rfl, rfl, fun e W K hS hdf hrest hdep hlate hK => ?_⟩
                  clear hdf
                  have d22 : bldV b off l.length cap k nn pre ky c 22 (e.tmps.getD 82 undef) W := hdep ⟨22, .data⟩ (by simp) rfl
                  obtain ⟨g22, d22, b22⟩ := d22
                  have x22 := getD_form d22
                  have hcv : (convert 56 9 (.slice (some ⟨g22, 0, none⟩) 2 2)).run Tryz.prog W = .ok (.string (B (flag1 c.del ++ [UInt8.ofNat c.val.length]))) W := by
                    have ho := Own.blk (base := 0) (Nat.zero_le _) b22 (by simp [flag1_len])
                    rw [show (flag1 c.del ++ [UInt8.ofNat c.val.length]).length = 2 by simp [flag1_len]] at ho
                    exact run_str ho
                  go_simp
                  exact hK _ _ rfl (Old.re _) hS
                rcases i with _ | i
                · obtain rfl := Option.some.inj ho
                  refine ⟨rfl, rfl, fun e W K hS hdf hrest hdep hlate hK => ?_⟩
                  clear hdf
                  have d13 : bldV b off l.length cap k nn pre ky c 13 (e.tmps.getD 73 undef) W := hdep ⟨13, .data⟩ (by simp) rfl
                  replace d13 : e.tmps.getD 73 undef = .string (B (pre ++ two nn ++ two (ky.length - nn) ++ ky.drop nn)) := d13
                  have x13 := getD_form d13
                  have d23 : bldV b off l.length cap k nn pre ky c 23 (e.tmps.getD 83 undef) W := hdep ⟨23, .data⟩ (by simp) rfl
                  replace d23 : e.tmps.getD 83 undef = .string (B (flag1 c.del ++ [UInt8.ofNat c.val.length])) := d23
                  have x23 := getD_form d23
                  refine wp_addop d13 d23 (by simp [two, flag1_len]; omega) ?_
                  exact hK _ _ rfl (Old.re _) hS
                rcases i with _ | i
                · obtain rfl := Option.some.inj ho
                  refine ⟨rfl, rfl, fun e W K hS hdf hrest hdep hlate hK => ?_⟩
                  clear hdf
                  have e5 : e.tmps.getD 0 undef = .slice (some ⟨b, off, none⟩) l.length cap := (hrest 0 (bldD_lt 0 (by omega) (by omega)))
                  have x5 := getD_form e5
                  go_simp
                  exact hK _ _ rfl (Old.re _) hS
                rcases i with _ | i
                · obtain rfl := Option.some.inj ho
                  refine ⟨rfl, rfl, fun e W K hS hdf hrest hdep hlate hK => ?_⟩
                  clear hdf
                  have e5 : e.tmps.getD 6 undef = .int .i64 (k : Nat) := (hrest 6 (bldD_lt 6 (by omega) (by omega)))
                  have x5 := getD_form e5
                  go_simp
                  exact hK _ _ rfl (Old.re _) hS
                rcases i with _ | i
                · obtain rfl := Option.some.inj ho
                  refine ⟨rfl, rfl, fun e W K hS hdf hrest hdep hlate hK => ?_⟩
                  clear hdf
                  have d25 : bldV b off l.length cap k nn pre ky c 25 (e.tmps.getD 85 undef) W := hdep ⟨25, .data⟩ (by simp) rfl
                  replace d25 : e.tmps.getD 85 undef = .slice (some ⟨b, off, none⟩) l.length cap := d25
                  have x25 := getD_form d25
                  have d26 : bldV b off l.length cap k nn pre ky c 26 (e.tmps.getD 86 undef) W := hdep ⟨26, .data⟩ (by simp) rfl
                  replace d26 : e.tmps.getD 86 undef = .int .i64 (k : Nat) := d26
                  have x26 := getD_form d26
                  have hk1 : ((k : Nat) : Int) < ((l.length : Nat) : Int) := by omega
                  go_simp
                  exact hK _ _ rfl (Old.re _) hS
                rcases i with _ | i
                · obtain rfl := Option.some.inj ho
                  refine ⟨rfl, rfl, fun e W K hS hdf hrest hdep hlate hK => ?_⟩
                  clear hdf
                  have d27 : bldV b off l.length cap k nn pre ky c 27 (e.tmps.getD 87 undef) W := hdep ⟨27, .data⟩ (by simp) rfl
                  replace d27 : e.tmps.getD 87 undef = .pointer (some ⟨b, off + k * 6, none⟩) := d27
                  have x27 := getD_form d27
                  go_simp
                  exact hK _ _ rfl (Old.re _) hS
                rcases i with _ | i
                · obtain rfl := Option.some.inj ho
                  refine ⟨rfl, rfl, fun e W K hS hdf hrest hdep hlate hK => ?_⟩
                  clear hdf
                  have d28 : bldV b off l.length cap k nn pre ky c 28 (e.tmps.getD 88 undef) W := hdep ⟨28, .data⟩ (by simp) rfl
                  replace d28 : e.tmps.getD 88 undef = .pointer (some ⟨b, off + k * 6 + 5, none⟩) := d28
                  have x28 := getD_form d28
                  obtain ⟨f0, f1, f2, f3, f4, f5⟩ := hS.1.held
                  go_simp
                  exact hK _ _ rfl (Old.re _) hS
                rcases i with _ | i
                · obtain rfl := Option.some.inj ho
                  refine ⟨rfl, rfl, fun e W K hS hdf hrest hdep hlate hK => ?_⟩
                  clear hdf
                  have d24 : bldV b off l.length cap k nn pre ky c 24 (e.tmps.getD 84 undef) W := hdep ⟨24, .data⟩ (by simp) rfl
                  replace d24 : e.tmps.getD 84 undef = .string (B (pre ++ two nn ++ two (ky.length - nn) ++ ky.drop nn ++ (flag1 c.del ++ [UInt8.ofNat c.val.length]))) := d24
                  have x24 := getD_form d24
                  have d29 : bldV b off l.length cap k nn pre ky c 29 (e.tmps.getD 89 undef) W := hdep ⟨29, .data⟩ (by simp) rfl
                  replace d29 : e.tmps.getD 89 undef = .string (B (c.val)) := d29
                  have x29 := getD_form d29
                  refine wp_addop d24 d29 (by simp [two, flag1_len]; omega) ?_
                  exact hK _ _ rfl (Old.re _) hS
                rcases i with _ | i
                · obtain rfl := Option.some.inj ho
                  refine ⟨rfl, rfl, fun e W K hS hdf hrest hdep hlate hK => ?_⟩
                  clear hdf
                  have d30 : bldV b off l.length cap k nn pre ky c 30 (e.tmps.getD 90 undef) W := hdep ⟨30, .data⟩ (by simp) rfl
                  replace d30 : e.tmps.getD 90 undef = .string (B (pre ++ two nn ++ two (ky.length - nn) ++ ky.drop nn ++ (flag1 c.del ++ [UInt8.ofNat c.val.length]) ++ c.val)) := d30
                  have x30 := getD_form d30
                  clear d30
                  generalize hP : pre ++ two nn ++ two (ky.length - nn) ++ ky.drop nn ++ (flag1 c.del ++ [UInt8.ofNat c.val.length]) ++ c.val = P at x30
                  go_simp
                  exact hK _ _ (by rw [← hP]; rfl) (Old.re _) hS
                simp at ho
            · have d4 : ((k : Int) % 4 != 0) = true := by rw [bne_iff_ne]; omega
              have hk0 : 0 < k := by
                rcases Nat.eq_zero_or_pos k with g | g
                · rw [g] at hm4; exact absurd rfl hm4
                · exact g
              have hnn2 : share last ky = nn := by rw [hnn, lend, if_neg hm4]
              clear hnn
              obtain ⟨c', hc1, hc2⟩ := HL.out hk0
              have HC2 := Lib.hid hc2
              clear hc2
              have hk1 : k - 1 < l.length := by omega
              rw [List.getElem?_eq_getElem hk1] at hc1
              injection hc1 with hc1
              have hm' := hall _ (List.getElem_mem hk1)
              have ho' := hok _ (List.getElem_mem hk1)
              have hxp := ((h.at_ (k - 1) hk1).old o3).held
              rw [hc1] at hm' ho' hxp
              clear hc1
              obtain ⟨p0, p1, p2, p3, p4, p5⟩ := hxp
              have n1 : (0 : Int) ≤ (k : Int) - 1 := by omega
              have n2 : (k : Int) - 1 < (l.length : Int) := by omega
              have n3 : ((k : Int) - 1).toNat = k - 1 := by omega
              go_wp2_with fail
              refine (rkey_any c' _ ho').mono ?_
              rintro e w4 ⟨rfl, k4⟩
              rw [show rkeyB c' = last by unfold rkeyB; rw [hm']; exact HC2.out.symm]
              have hx4 := hx3.old k4
              have o4 := o3.tr k4
              clear k4 p0 p1 p2 p3 p4 p5 hx3 o3 n1 n2 n3 SS f4
              go_wp2_with fail
              refine (rshared_any last ky _ (by omega)).mono ?_
              rintro e w5 ⟨rfl, k5⟩
              rw [hnn2]
              have hx5 := hx4.old k5
              have o5 := o4.tr k5
              have SS : bldS w b off k c w5 := ⟨hx5, o5⟩
              have f4 := hx5.held.2.2.2.2.1
              clear k5 hx4 o4 hnn2
              cases hd : c.del
              · rw [hd] at f4
                have q9 := Lib.hid (show (Value.int .u8 0) = .int .u8 (delI c) by simp [delI, hd])
                clear hd
                go_wp2_with fail
                refine wp_region_runs (by kernel_rfl) (bldS w b off k c) (bldV b off l.length cap k nn pre ky c) bldD 32 rfl (by kernel_rfl) ?ra2 ?rb2 (bldV_stab b off l.length cap k nn pre ky c) (SS.old (Old.re _).dr) ?rc2 ?rd2
                case ra2 => (intro i hi; simp only [List.size_toArray, List.length_cons, List.length_nil]; unfold bldD; split <;> omega)
                case rb2 => (intro i j hi hj h; unfold bldD at h; split at h <;> split at h <;> omega)
                case rd2 =>
                  intro e W hS hdf hsz hrest hall
                  have r5 : e.tmps.getD 5 undef = .string (B (pre ++ two nn ++ two (ky.length - nn) ++ ky.drop nn ++ (flag1 c.del ++ [UInt8.ofNat c.val.length]) ++ c.val)) := hall 31 (by omega)
                  have r0 : e.tmps.getD 0 undef = .slice (some ⟨b, off, none⟩) l.length cap := hrest 0 (bldD_lt 0 (by omega) (by omega))
                  have r6 : e.tmps.getD 6 undef = .int .i64 (k : Nat) := hrest 6 (bldD_lt 6 (by omega) (by omega))
                  generalize hP : pre ++ two nn ++ two (ky.length - nn) ++ ky.drop nn ++ (flag1 c.del ++ [UInt8.ofNat c.val.length]) ++ c.val = P at r5
                  have HP := Lib.hid hP
                  clear hP
                  have r1 := hrest 1 (bldD_lt 1 (by omega) (by omega))
                  conv at r1 => rhs; whnf
                  try change _ = undef at r1
                  have r2 := hrest 2 (bldD_lt 2 (by omega) (by omega))
                  conv at r2 => rhs; whnf
                  try change _ = undef at r2
                  have r3 := hrest 3 (bldD_lt 3 (by omega) (by omega))
                  conv at r3 => rhs; whnf
                  try change _ = undef at r3
                  have r4 := hrest 4 (bldD_lt 4 (by omega) (by omega))
                  conv at r4 => rhs; whnf
                  try change _ = undef at r4
                  have r7 := hrest 7 (bldD_lt 7 (by omega) (by omega))
                  conv at r7 => rhs; whnf
                  try change _ = undef at r7
                  have r8 := hrest 8 (bldD_lt 8 (by omega) (by omega))
                  conv at r8 => rhs; whnf
                  try change _ = undef at r8
                  have r9 := hrest 9 (bldD_lt 9 (by omega) (by omega))
                  conv at r9 => rhs; whnf
                  try change _ = undef at r9
                  have r10 := hrest 10 (bldD_lt 10 (by omega) (by omega))
                  conv at r10 => rhs; whnf
                  try change _ = undef at r10
                  have r11 := hrest 11 (bldD_lt 11 (by omega) (by omega))
                  conv at r11 => rhs; whnf
                  try change _ = undef at r11
                  have r12 := hrest 12 (bldD_lt 12 (by omega) (by omega))
                  conv at r12 => rhs; whnf
                  try change _ = undef at r12
                  have r13 := hrest 13 (bldD_lt 13 (by omega) (by omega))
                  conv at r13 => rhs; whnf
                  try change _ = undef at r13
                  have r14 := hrest 14 (bldD_lt 14 (by omega) (by omega))
                  conv at r14 => rhs; whnf
                  try change _ = undef at r14
                  have r15 := hrest 15 (bldD_lt 15 (by omega) (by omega))
                  conv at r15 => rhs; whnf
                  try change _ = undef at r15
                  have r16 := hrest 16 (bldD_lt 16 (by omega) (by omega))
                  conv at r16 => rhs; whnf
                  try change _ = undef at r16
                  have r17 := hrest 17 (bldD_lt 17 (by omega) (by omega))
                  conv at r17 => rhs; whnf
                  try change _ = undef at r17
                  have r18 := hrest 18 (bldD_lt 18 (by omega) (by omega))
                  conv at r18 => rhs; whnf
                  try change _ = undef at r18
                  have r19 := hrest 19 (bldD_lt 19 (by omega) (by omega))
                  conv at r19 => rhs; whnf
                  try change _ = undef at r19
                  have r20 := hrest 20 (bldD_lt 20 (by omega) (by omega))
                  conv at r20 => rhs; whnf
                  try change _ = undef at r20
                  have r21 := hrest 21 (bldD_lt 21 (by omega) (by omega))
                  conv at r21 => rhs; whnf
                  try change _ = undef at r21
                  have r22 := hrest 22 (bldD_lt 22 (by omega) (by omega))
                  conv at r22 => rhs; whnf
                  try change _ = undef at r22
                  have r23 := hrest 23 (bldD_lt 23 (by omega) (by omega))
                  conv at r23 => rhs; whnf
                  try change _ = undef at r23
                  have r24 := hrest 24 (bldD_lt 24 (by omega) (by omega))
                  conv at r24 => rhs; whnf
                  try change _ = undef at r24
                  have r25 := hrest 25 (bldD_lt 25 (by omega) (by omega))
                  conv at r25 => rhs; whnf
                  try change _ = undef at r25
                  have r26 := hrest 26 (bldD_lt 26 (by omega) (by omega))
                  conv at r26 => rhs; whnf
                  try change _ = undef at r26
                  have r27 := hrest 27 (bldD_lt 27 (by omega) (by omega))
                  conv at r27 => rhs; whnf
                  try change _ = undef at r27
                  have r28 := hrest 28 (bldD_lt 28 (by omega) (by omega))
                  conv at r28 => rhs; whnf
                  try change _ = undef at r28
                  have r29 := hrest 29 (bldD_lt 29 (by omega) (by omega))
                  conv at r29 => rhs; whnf
                  try change _ = undef at r29
                  have r30 := hrest 30 (bldD_lt 30 (by omega) (by omega))
                  conv at r30 => rhs; whnf
                  try change _ = undef at r30
                  have r31 := hrest 31 (bldD_lt 31 (by omega) (by omega))
                  conv at r31 => rhs; whnf
                  try change _ = undef at r31
                  have r32 := hrest 32 (bldD_lt 32 (by omega) (by omega))
                  conv at r32 => rhs; whnf
                  try change _ = undef at r32
                  have r33 := hrest 33 (bldD_lt 33 (by omega) (by omega))
                  conv at r33 => rhs; whnf
                  try change _ = undef at r33
                  have r34 := hrest 34 (bldD_lt 34 (by omega) (by omega))
                  conv at r34 => rhs; whnf
                  try change _ = undef at r34
                  have r35 := hrest 35 (bldD_lt 35 (by omega) (by omega))
                  conv at r35 => rhs; whnf
                  try change _ = undef at r35
                  have r36 := hrest 36 (bldD_lt 36 (by omega) (by omega))
                  conv at r36 => rhs; whnf
                  try change _ = undef at r36
                  have r37 := hrest 37 (bldD_lt 37 (by omega) (by omega))
                  conv at r37 => rhs; whnf
                  try change _ = undef at r37
                  have r38 := hrest 38 (bldD_lt 38 (by omega) (by omega))
                  conv at r38 => rhs; whnf
                  try change _ = undef at r38
                  have r39 := hrest 39 (bldD_lt 39 (by omega) (by omega))
                  conv at r39 => rhs; whnf
                  try change _ = undef at r39
                  have r40 := hrest 40 (bldD_lt 40 (by omega) (by omega))
                  conv at r40 => rhs; whnf
                  try change _ = undef at r40
                  have r41 := hrest 41 (bldD_lt 41 (by omega) (by omega))
                  conv at r41 => rhs; whnf
                  try change _ = undef at r41
                  have r42 := hrest 42 (bldD_lt 42 (by omega) (by omega))
                  conv at r42 => rhs; whnf
                  try change _ = undef at r42
                  have r43 := hrest 43 (bldD_lt 43 (by omega) (by omega))
                  conv at r43 => rhs; whnf
                  try change _ = undef at r43
                  have r44 := hrest 44 (bldD_lt 44 (by omega) (by omega))
                  conv at r44 => rhs; whnf
                  try change _ = undef at r44
                  have r45 := hrest 45 (bldD_lt 45 (by omega) (by omega))
                  conv at r45 => rhs; whnf
                  try change _ = undef at r45
                  have r46 := hrest 46 (bldD_lt 46 (by omega) (by omega))
                  conv at r46 => rhs; whnf
                  try change _ = undef at r46
                  have r47 := hrest 47 (bldD_lt 47 (by omega) (by omega))
                  conv at r47 => rhs; whnf
                  try change _ = undef at r47
                  have r48 := hrest 48 (bldD_lt 48 (by omega) (by omega))
                  conv at r48 => rhs; whnf
                  try change _ = undef at r48
                  have r49 := hrest 49 (bldD_lt 49 (by omega) (by omega))
                  conv at r49 => rhs; whnf
                  try change _ = undef at r49
                  have r50 := hrest 50 (bldD_lt 50 (by omega) (by omega))
                  conv at r50 => rhs; whnf
                  try change _ = undef at r50
                  have r51 := hrest 51 (bldD_lt 51 (by omega) (by omega))
                  conv at r51 => rhs; whnf
                  try change _ = undef at r51
                  have r52 := hrest 52 (bldD_lt 52 (by omega) (by omega))
                  conv at r52 => rhs; whnf
                  try change _ = undef at r52
                  have r53 := hrest 53 (bldD_lt 53 (by omega) (by omega))
                  conv at r53 => rhs; whnf
                  try change _ = undef at r53
                  have r54 := hrest 54 (bldD_lt 54 (by omega) (by omega))
                  conv at r54 => rhs; whnf
                  try change _ = undef at r54
                  have r55 := hrest 55 (bldD_lt 55 (by omega) (by omega))
                  conv at r55 => rhs; whnf
                  try change _ = undef at r55
                  have r56 := hrest 56 (bldD_lt 56 (by omega) (by omega))
                  conv at r56 => rhs; whnf
                  try change _ = undef at r56
                  have r57 := hrest 57 (bldD_lt 57 (by omega) (by omega))
                  conv at r57 => rhs; whnf
                  try change _ = undef at r57
                  have r58 := hrest 58 (bldD_lt 58 (by omega) (by omega))
                  conv at r58 => rhs; whnf
                  try change _ = undef at r58
                  have r59 := hrest 59 (bldD_lt 59 (by omega) (by omega))
                  conv at r59 => rhs; whnf
                  try change _ = undef at r59
                  have r91 := hrest 91 bldD_91
                  conv at r91 => rhs; whnf
                  try change _ = undef at r91
                  clear hrest hall
                  obtain ⟨bt, bd⟩ := e
                  simp only at hdf hsz
                  subst hdf
                  have hlit := arr_lit bt hsz
                  rw [r0, r1, r2, r3, r4, r5, r6, r7, r8, r9, r10, r11, r12, r13, r14, r15, r16, r17, r18, r19, r20, r21, r22, r23, r24, r25, r26, r27, r28, r29, r30, r31, r32, r33, r34, r35, r36, r37, r38, r39, r40, r41, r42, r43, r44, r45, r46, r47, r48, r49, r50, r51, r52, r53, r54, r55, r56, r57, r58, r59, r91] at hlit
                  clear r0 r1 r2 r3 r4 r5 r6 r7 r8 r9 r10 r11 r12 r13 r14 r15 r16 r17 r18 r19 r20 r21 r22 r23 r24 r25 r26 r27 r28 r29 r30 r31 r32 r33 r34 r35 r36 r37 r38 r39 r40 r41 r42 r43 r44 r45 r46 r47 r48 r49 r50 r51 r52 r53 r54 r55 r56 r57 r58 r59 r91 hsz
                  generalize bt.getD 60 undef = u60 at hlit
                  generalize bt.getD 61 undef = u61 at hlit
                  generalize bt.getD 62 undef = u62 at hlit
                  generalize bt.getD 63 undef = u63 at hlit
                  generalize bt.getD 64 undef = u64 at hlit
                  generalize bt.getD 65 undef = u65 at hlit
                  generalize bt.getD 66 undef = u66 at hlit
                  generalize bt.getD 67 undef = u67 at hlit
                  generalize bt.getD 68 undef = u68 at hlit
                  generalize bt.getD 69 undef = u69 at hlit
                  generalize bt.getD 70 undef = u70 at hlit
                  generalize bt.getD 71 undef = u71 at hlit
                  generalize bt.getD 72 undef = u72 at hlit
                  generalize bt.getD 73 undef = u73 at hlit
                  generalize bt.getD 74 undef = u74 at hlit
                  generalize bt.getD 75 undef = u75 at hlit
                  generalize bt.getD 76 undef = u76 at hlit
                  generalize bt.getD 77 undef = u77 at hlit
                  generalize bt.getD 78 undef = u78 at hlit
                  generalize bt.getD 79 undef = u79 at hlit
                  generalize bt.getD 80 undef = u80 at hlit
                  generalize bt.getD 81 undef = u81 at hlit
                  generalize bt.getD 82 undef = u82 at hlit
                  generalize bt.getD 83 undef = u83 at hlit
                  generalize bt.getD 84 undef = u84 at hlit
                  generalize bt.getD 85 undef = u85 at hlit
                  generalize bt.getD 86 undef = u86 at hlit
                  generalize bt.getD 87 undef = u87 at hlit
                  generalize bt.getD 88 undef = u88 at hlit
                  generalize bt.getD 89 undef = u89 at hlit
                  generalize bt.getD 90 undef = u90 at hlit
                  subst hlit
                  have h9 := hS.2
                  clear hS
                  go_wp2
                  go_roundw
                  case rel =>
                    refine ⟨k + 1, _, ky, by omega, rfl, by go_num, h9, ?_, hkl2, Lib.hid ?_, Lib.hid ?_⟩
                    · have := hel; rw [hent.out] at this; rw [← HP.out]; simp at this ⊢; omega
                    · intro _; exact ⟨c, by rw [Nat.add_sub_cancel]; exact HG.out, HK.out⟩
                    · rw [HB.out, HD.out, entsFrom, hent.out, ← HK.out, ← HP.out]
                      simp
                  case measure => simp [intOf]; omega
                intro i o ho
                rcases i with _ | i
                · obtain rfl := Option.some.inj ho
                  refine ⟨rfl, rfl, fun e W K hS hdf hrest hdep hlate hK => ?_⟩
                  clear hdf
                  have e5 : e.tmps.getD 5 undef = .string (B pre) := (hlate 31 _ rfl ⟨⟨0, .phase⟩, by simp, rfl, rfl⟩)
                  have x5 := getD_form e5
                  go_simp
                  exact hK _ _ rfl (Old.re _) hS
                rcases i with _ | i
                · obtain rfl := Option.some.inj ho
                  refine ⟨rfl, rfl, fun e W K hS hdf hrest hdep hlate hK => ?_⟩
                  clear hdf
                  have e5 : e.tmps.getD 8 undef = .int .i64 (nn : Nat) := (hrest 8 (bldD_lt 8 (by omega) (by omega)))
                  have x5 := getD_form e5
                  go_simp
                  exact hK _ _ rfl (Old.re _) hS
                rcases i with _ | i
                · obtain rfl := Option.some.inj ho
                  refine ⟨rfl, rfl, fun e W K hS hdf hrest hdep hlate hK => ?_⟩
                  clear hdf
                  have d1 : bldV b off l.length cap k nn pre ky c 1 (e.tmps.getD 61 undef) W := hdep ⟨1, .data⟩ (by simp) rfl
                  replace d1 : e.tmps.getD 61 undef = .int .i64 (nn : Nat) := d1
                  have x1 := getD_form d1
                  go_simp
                  refine (rtwo_any nn _ (by omega)).mono ?_
                  rintro r W2 ⟨rfl, hO⟩
                  exact hK _ _ rfl hO (hS.old hO)
                rcases i with _ | i
                · obtain rfl := Option.some.inj ho
                  refine ⟨rfl, rfl, fun e W K hS hdf hrest hdep hlate hK => ?_⟩
                  clear hdf
                  have d0 : bldV b off l.length cap k nn pre ky c 0 (e.tmps.getD 60 undef) W := hdep ⟨0, .data⟩ (by simp) rfl
                  replace d0 : e.tmps.getD 60 undef = .string (B (pre)) := d0
                  have x0 := getD_form d0
                  have d2 : bldV b off l.length cap k nn pre ky c 2 (e.tmps.getD 62 undef) W := hdep ⟨2, .data⟩ (by simp) rfl
                  replace d2 : e.tmps.getD 62 undef = .string (B (two nn)) := d2
                  have x2 := getD_form d2
                  refine wp_addop d0 d2 (by simp [two, flag1_len]; omega) ?_
                  exact hK _ _ rfl (Old.re _) hS
                rcases i with _ | i
                · obtain rfl := Option.some.inj ho
                  refine ⟨rfl, rfl, fun e W K hS hdf hrest hdep hlate hK => ?_⟩
                  clear hdf
                  have e5 : e.tmps.getD 7 undef = .string (B ky) := (hrest 7 (bldD_lt 7 (by omega) (by omega)))
                  have x5 := getD_form e5
                  go_simp
                  exact hK _ _ rfl (Old.re _) hS
                rcases i with _ | i
                · obtain rfl := Option.some.inj ho
                  refine ⟨rfl, rfl, fun e W K hS hdf hrest hdep hlate hK => ?_⟩
                  clear hdf
                  have d4 : bldV b off l.length cap k nn pre ky c 4 (e.tmps.getD 64 undef) W := hdep ⟨4, .data⟩ (by simp) rfl
                  replace d4 : e.tmps.getD 64 undef = .string (B (ky)) := d4
                  have x4 := getD_form d4
                  go_simp
                  exact hK _ _ rfl (Old.re _) hS
                rcases i with _ | i
                · obtain rfl := Option.some.inj ho
                  refine ⟨rfl, rfl, fun e W K hS hdf hrest hdep hlate hK => ?_⟩
                  clear hdf
                  have e5 : e.tmps.getD 8 undef = .int .i64 (nn : Nat) := (hrest 8 (bldD_lt 8 (by omega) (by omega)))
                  have x5 := getD_form e5
                  go_simp
                  exact hK _ _ rfl (Old.re _) hS
                rcases i with _ | i
                · obtain rfl := Option.some.inj ho
                  refine ⟨rfl, rfl, fun e W K hS hdf hrest hdep hlate hK => ?_⟩
                  clear hdf
                  have d5 : bldV b off l.length cap k nn pre ky c 5 (e.tmps.getD 65 undef) W := hdep ⟨5, .data⟩ (by simp) rfl
                  replace d5 : e.tmps.getD 65 undef = .int .i64 (ky.length : Nat) := d5
                  have x5 := getD_form d5
                  have d6 : bldV b off l.length cap k nn pre ky c 6 (e.tmps.getD 66 undef) W := hdep ⟨6, .data⟩ (by simp) rfl
                  replace d6 : e.tmps.getD 66 undef = .int .i64 (nn : Nat) := d6
                  have x6 := getD_form d6
                  have hsub : ((ky.length : Nat) : Int) - ((nn : Nat) : Int) = ((ky.length - nn : Nat) : Int) := by omega
                  have hw : IntKind.i64.wrap ((ky.length - nn : Nat) : Int) = ((ky.length - nn : Nat) : Int) := by rw [IntKind.wrap_i64]; omega
                  go_simp
                  exact hK _ _ rfl (Old.re _) hS
                rcases i with _ | i
                · obtain rfl := Option.some.inj ho
                  refine ⟨rfl, rfl, fun e W K hS hdf hrest hdep hlate hK => ?_⟩
                  clear hdf
                  have d7 : bldV b off l.length cap k nn pre ky c 7 (e.tmps.getD 67 undef) W := hdep ⟨7, .data⟩ (by simp) rfl
                  replace d7 : e.tmps.getD 67 undef = .int .i64 (ky.length - nn : Nat) := d7
                  have x7 := getD_form d7
                  go_simp
                  refine (rtwo_any (ky.length - nn) _ (by omega)).mono ?_
                  rintro r W2 ⟨rfl, hO⟩
                  exact hK _ _ rfl hO (hS.old hO)
                rcases i with _ | i
                · obtain rfl := Option.some.inj ho
                  refine ⟨rfl, rfl, fun e W K hS hdf hrest hdep hlate hK => ?_⟩
                  clear hdf
                  have d3 : bldV b off l.length cap k nn pre ky c 3 (e.tmps.getD 63 undef) W := hdep ⟨3, .data⟩ (by simp) rfl
                  replace d3 : e.tmps.getD 63 undef = .string (B (pre ++ two nn)) := d3
                  have x3 := getD_form d3
                  have d8 : bldV b off l.length cap k nn pre ky c 8 (e.tmps.getD 68 undef) W := hdep ⟨8, .data⟩ (by simp) rfl
                  replace d8 : e.tmps.getD 68 undef = .string (B (two (ky.length - nn))) := d8
                  have x8 := getD_form d8
                  refine wp_addop d3 d8 (by simp [two, flag1_len]; omega) ?_
                  exact hK _ _ rfl (Old.re _) hS
                rcases i with _ | i
                · obtain rfl := Option.some.inj ho
                  refine ⟨rfl, rfl, fun e W K hS hdf hrest hdep hlate hK => ?_⟩
                  clear hdf
                  have e5 : e.tmps.getD 7 undef = .string (B ky) := (hrest 7 (bldD_lt 7 (by omega) (by omega)))
                  have x5 := getD_form e5
                  go_simp
                  exact hK _ _ rfl (Old.re _) hS
                rcases i with _ | i
                · obtain rfl := Option.some.inj ho
                  refine ⟨rfl, rfl, fun e W K hS hdf hrest hdep hlate hK => ?_⟩
                  clear hdf
                  have e5 : e.tmps.getD 8 undef = .int .i64 (nn : Nat) := (hrest 8 (bldD_lt 8 (by omega) (by omega)))
                  have x5 := getD_form e5
                  go_simp
                  exact hK _ _ rfl (Old.re _) hS
                rcases i with _ | i
                · obtain rfl := Option.some.inj ho
                  refine ⟨rfl, rfl, fun e W K hS hdf hrest hdep hlate hK => ?_⟩
                  clear hdf
                  have d10 : bldV b off l.length cap k nn pre ky c 10 (e.tmps.getD 70 undef) W := hdep ⟨10, .data⟩ (by simp) rfl
                  replace d10 : e.tmps.getD 70 undef = .string (B (ky)) := d10
                  have x10 := getD_form d10
                  have d11 : bldV b off l.length cap k nn pre ky c 11 (e.tmps.getD 71 undef) W := hdep ⟨11, .data⟩ (by simp) rfl
                  replace d11 : e.tmps.getD 71 undef = .int .i64 (nn : Nat) := d11
                  have x11 := getD_form d11
                  have hle : ((nn : Nat) : Int) ≤ ((ky.length : Nat) : Int) := by omega
                  have xd : (B ky).extract nn ky.length = B (ky.drop nn) := ext_drop _ _ _ (Nat.le_refl _)
                  go_simp
                  exact hK _ _ rfl (Old.re _) hS
                rcases i with _ | i
                · obtain rfl := Option.some.inj ho
                  refine ⟨rfl, rfl, fun e W K hS hdf hrest hdep hlate hK => ?_⟩
                  clear hdf
                  have d9 : bldV b off l.length cap k nn pre ky c 9 (e.tmps.getD 69 undef) W := hdep ⟨9, .data⟩ (by simp) rfl
                  replace d9 : e.tmps.getD 69 undef = .string (B (pre ++ two nn ++ two (ky.length - nn))) := d9
                  have x9 := getD_form d9
                  have d12 : bldV b off l.length cap k nn pre ky c 12 (e.tmps.getD 72 undef) W := hdep ⟨12, .data⟩ (by simp) rfl
                  replace d12 : e.tmps.getD 72 undef = .string (B (ky.drop nn)) := d12
                  have x12 := getD_form d12
                  refine wp_addop d9 d12 (by simp [two, flag1_len]; omega) ?_
                  exact hK _ _ rfl (Old.re _) hS
                rcases i with _ | i
                · obtain rfl := Option.some.inj ho
                  refine ⟨rfl, rfl, fun e W K hS hdf hrest hdep hlate hK => ?_⟩
                  clear hdf
                  have e5 : e.tmps.getD 9 undef = .int .u8 (delI c) := (hrest 9 (bldD_lt 9 (by omega) (by omega))).trans q9.out
                  have x5 := getD_form e5
                  go_simp
                  exact hK _ _ rfl (Old.re _) hS
                rcases i with _ | i
                · obtain rfl := Option.some.inj ho
                  refine ⟨rfl, rfl, fun e W K hS hdf hrest hdep hlate hK => ?_⟩
                  clear hdf
                  have e5 : e.tmps.getD 0 undef = .slice (some ⟨b, off, none⟩) l.length cap := (hrest 0 (bldD_lt 0 (by omega) (by omega)))
                  have x5 := getD_form e5
                  go_simp
                  exact hK _ _ rfl (Old.re _) hS
                rcases i with _ | i
                · obtain rfl := Option.some.inj ho
                  refine ⟨rfl, rfl, fun e W K hS hdf hrest hdep hlate hK => ?_⟩
                  clear hdf
                  have e5 : e.tmps.getD 6 undef = .int .i64 (k : Nat) := (hrest 6 (bldD_lt 6 (by omega) (by omega)))
                  have x5 := getD_form e5
                  go_simp
                  exact hK _ _ rfl (Old.re _) hS
                rcases i with _ | i
                · obtain rfl := Option.some.inj ho
                  refine ⟨rfl, rfl, fun e W K hS hdf hrest hdep hlate hK => ?_⟩
                  clear hdf
                  have d15 : bldV b off l.length cap k nn pre ky c 15 (e.tmps.getD 75 undef) W := hdep ⟨15, .data⟩ (by simp) rfl
                  replace d15 : e.tmps.getD 75 undef = .slice (some ⟨b, off, none⟩) l.length cap := d15
                  have x15 := getD_form d15
                  have d16 : bldV b off l.length cap k nn pre ky c 16 (e.tmps.getD 76 undef) W := hdep ⟨16, .data⟩ (by simp) rfl
                  replace d16 : e.tmps.getD 76 undef = .int .i64 (k : Nat) := d16
                  have x16 := getD_form d16
                  have hk1 : ((k : Nat) : Int) < ((l.length : Nat) : Int) := by omega
                  go_simp
                  exact hK _ _ rfl (Old.re _) hS
                rcases i with _ | i
                · obtain rfl := Option.some.inj ho
                  refine ⟨rfl, rfl, fun e W K hS hdf hrest hdep hlate hK => ?_⟩
                  clear hdf
                  have d17 : bldV b off l.length cap k nn pre ky c 17 (e.tmps.getD 77 undef) W := hdep ⟨17, .data⟩ (by simp) rfl
                  replace d17 : e.tmps.getD 77 undef = .pointer (some ⟨b, off + k * 6, none⟩) := d17
                  have x17 := getD_form d17
                  go_simp
                  exact hK _ _ rfl (Old.re _) hS
                rcases i with _ | i
                · obtain rfl := Option.some.inj ho
                  refine ⟨rfl, rfl, fun e W K hS hdf hrest hdep hlate hK => ?_⟩
                  clear hdf
                  have d18 : bldV b off l.length cap k nn pre ky c 18 (e.tmps.getD 78 undef) W := hdep ⟨18, .data⟩ (by simp) rfl
                  replace d18 : e.tmps.getD 78 undef = .pointer (some ⟨b, off + k * 6 + 5, none⟩) := d18
                  have x18 := getD_form d18
                  obtain ⟨f0, f1, f2, f3, f4, f5⟩ := hS.1.held
                  go_simp
                  exact hK _ _ rfl (Old.re _) hS
                rcases i with _ | i
                · obtain rfl := Option.some.inj ho
                  refine ⟨rfl, rfl, fun e W K hS hdf hrest hdep hlate hK => ?_⟩
                  clear hdf
                  have d19 : bldV b off l.length cap k nn pre ky c 19 (e.tmps.getD 79 undef) W := hdep ⟨19, .data⟩ (by simp) rfl
                  replace d19 : e.tmps.getD 79 undef = .string (B (c.val)) := d19
                  have x19 := getD_form d19
                  go_simp
                  exact hK _ _ rfl (Old.re _) hS
                rcases i with _ | i
                · obtain rfl := Option.some.inj ho
                  refine ⟨rfl, rfl, fun e W K hS hdf hrest hdep hlate hK => ?_⟩
                  clear hdf
                  have d20 : bldV b off l.length cap k nn pre ky c 20 (e.tmps.getD 80 undef) W := hdep ⟨20, .data⟩ (by simp) rfl
                  replace d20 : e.tmps.getD 80 undef = .int .i64 (c.val.length : Nat) := d20
                  have x20 := getD_form d20
                  have hw3 : IntKind.u8.wrap (c.val.length : Int) = (c.val.length : Int) := by rw [IntKind.wrap_u8]; omega
                  go_simp
                  exact hK _ _ rfl (Old.re _) hS
                rcases i with _ | i
                · obtain rfl := Option.some.inj ho
                  refine ⟨rfl, rfl, fun e W K hS hdf hrest hdep hlate hK => ?_⟩
                  clear hdf
                  have d14 : bldV b off l.length cap k nn pre ky c 14 (e.tmps.getD 74 undef) W := hdep ⟨14, .data⟩ (by simp) rfl
                  replace d14 : e.tmps.getD 74 undef = .int .u8 (delI c) := d14
                  have x14 := getD_form d14
                  have d21 : bldV b off l.length cap k nn pre ky c 21 (e.tmps.getD 81 undef) W := hdep ⟨21, .data⟩ (by simp) rfl
                  replace d21 : e.tmps.getD 81 undef = .int .u8 (c.val.length : Nat) := d21
                  have x21 := getD_form d21
                  go_simp
                  rw [flag_cells c c.val.length (by omega)]
                  exact hK _ _ ⟨W.heap.size, rfl, new_bk _ _ _⟩ ((Old.re _).al _) (hS.old ((Old.re _).al _))
                rcases i with _ | i
                · obtain rfl := Option.some.inj ho
                  refine ⟨rfl, rfl, fun e W K hS hdf hrest hdep hlate hK => ?_⟩
                  clear hdf
                  have d22 : bldV b off l.length cap k nn pre ky c 22 (e.tmps.getD 82 undef) W := hdep ⟨22, .data⟩ (by simp) rfl
                  obtain ⟨g22, d22, b22⟩ := d22
                  have x22 := getD_form d22
                  have hcv : (convert 56 9 (.slice (some ⟨g22, 0, none⟩) 2 2)).run Tryz.prog W = .ok (.string (B (flag1 c.del ++ [UInt8.ofNat c.val.length]))) W := by
                    have ho := Own.blk (base := 0) (Nat.zero_le _) b22 (by simp [flag1_len])
                    rw [show (flag1 c.del ++ [UInt8.ofNat c.val.length]).length = 2 by simp [flag1_len]] at ho
                    exact run_str ho
                  go_simp
                  exact hK _ _ rfl (Old.re _) hS
                rcases i with _ | i
                · obtain rfl := Option.some.inj ho
                  refine ⟨rfl, rfl, fun e W K hS hdf hrest hdep hlate hK => ?_⟩
                  clear hdf
                  have d13 : bldV b off l.length cap k nn pre ky c 13 (e.tmps.getD 73 undef) W := hdep ⟨13, .data⟩ (by simp) rfl
                  replace d13 : e.tmps.getD 73 undef = .string (B (pre ++ two nn ++ two (ky.length - nn) ++ ky.drop nn)) := d13
                  have x13 := getD_form d13
                  have d23 : bldV b off l.length cap k nn pre ky c 23 (e.tmps.getD 83 undef) W := hdep ⟨23, .data⟩ (by simp) rfl
                  replace d23 : e.tmps.getD 83 undef = .string (B (flag1 c.del ++ [UInt8.ofNat c.val.length])) := d23
                  have x23 := getD_form d23
                  refine wp_addop d13 d23 (by simp [two, flag1_len]; omega) ?_
                  exact hK _ _ rfl (Old.re _) hS
                rcases i with _ | i
                · obtain rfl := Option.some.inj ho
                  refine ⟨rfl, rfl, fun e W K hS hdf hrest hdep hlate hK => ?_⟩
                  clear hdf
                  have e5 : e.tmps.getD 0 undef = .slice (some ⟨b, off, none⟩) l.length cap := (hrest 0 (bldD_lt 0 (by omega) (by omega)))
                  have x5 := getD_form e5
                  go_simp
                  exact hK _ _ rfl (Old.re _) hS
                rcases i with _ | i
                · obtain rfl := Option.some.inj ho
                  refine ⟨rfl, rfl, fun e W K hS hdf hrest hdep hlate hK => ?_⟩
                  clear hdf
                  have e5 : e.tmps.getD 6 undef = .int .i64 (k : Nat) := (hrest 6 (bldD_lt 6 (by omega) (by omega)))
                  have x5 := getD_form e5
                  go_simp
                  exact hK _ _ rfl (Old.re _) hS
                rcases i with _ | i
                · obtain rfl := Option.some.inj ho
                  refine ⟨rfl, rfl, fun e W K hS hdf hrest hdep hlate hK => ?_⟩
                  clear hdf
                  have d25 : bldV b off l.length cap k nn pre ky c 25 (e.tmps.getD 85 undef) W := hdep ⟨25, .data⟩ (by simp) rfl
                  replace d25 : e.tmps.getD 85 undef = .slice (some ⟨b, off, none⟩) l.length cap := d25
                  have x25 := getD_form d25
                  have d26 : bldV b off l.length cap k nn pre ky c 26 (e.tmps.getD 86 undef) W := hdep ⟨26, .data⟩ (by simp) rfl
                  replace d26 : e.tmps.getD 86 undef = .int .i64 (k : Nat) := d26
                  have x26 := getD_form d26
                  have hk1 : ((k : Nat) : Int) < ((l.length : Nat) : Int) := by omega
                  go_simp
                  exact hK _ _ rfl (Old.re _) hS
                rcases i with _ | i
                · obtain rfl := Option.some.inj ho
                  refine ⟨rfl, rfl, fun e W K hS hdf hrest hdep hlate hK => ?_⟩
                  clear hdf
                  have d27 : bldV b off l.length cap k nn pre ky c 27 (e.tmps.getD 87 undef) W := hdep ⟨27, .data⟩ (by simp) rfl
                  replace d27 : e.tmps.getD 87 undef = .pointer (some ⟨b, off + k * 6, none⟩) := d27
                  have x27 := getD_form d27
                  go_simp
                  exact hK _ _ rfl (Old.re _) hS
                rcases i with _ | i
                · obtain rfl := Option.some.inj ho
                  refine ⟨rfl, rfl, fun e W K hS hdf hrest hdep hlate hK => ?_⟩
                  clear hdf
                  have d28 : bldV b off l.length cap k nn pre ky c 28 (e.tmps.getD 88 undef) W := hdep ⟨28, .data⟩ (by simp) rfl
                  replace d28 : e.tmps.getD 88 undef = .pointer (some ⟨b, off + k * 6 + 5, none⟩) := d28
                  have x28 := getD_form d28
                  obtain ⟨f0, f1, f2, f3, f4, f5⟩ := hS.1.held
                  go_simp
                  exact hK _ _ rfl (Old.re _) hS
                rcases i with _ | i
                · obtain rfl := Option.some.inj ho
                  refine ⟨rfl, rfl, fun e W K hS hdf hrest hdep hlate hK => ?_⟩
                  clear hdf
                  have d24 : bldV b off l.length cap k nn pre ky c 24 (e.tmps.getD 84 undef) W := hdep ⟨24, .data⟩ (by simp) rfl
                  replace d24 : e.tmps.getD 84 undef = .string (B (pre ++ two nn ++ two (ky.length - nn) ++ ky.drop nn ++ (flag1 c.del ++ [UInt8.ofNat c.val.length]))) := d24
                  have x24 := getD_form d24
                  have d29 : bldV b off l.length cap k nn pre ky c 29 (e.tmps.getD 89 undef) W := hdep ⟨29, .data⟩ (by simp) rfl
                  replace d29 : e.tmps.getD 89 undef = .string (B (c.val)) := d29
                  have x29 := getD_form d29
                  refine wp_addop d24 d29 (by simp [two, flag1_len]; omega) ?_
                  exact hK _ _ rfl (Old.re _) hS
                rcases i with _ | i
                · obtain rfl := Option.some.inj ho
                  refine ⟨rfl, rfl, fun e W K hS hdf hrest hdep hlate hK => ?_⟩
                  clear hdf
                  have d30 : bldV b off l.length cap k nn pre ky c 30 (e.tmps.getD 90 undef) W := hdep ⟨30, .data⟩ (by simp) rfl
                  replace d30 : e.tmps.getD 90 undef = .string (B (pre ++ two nn ++ two (ky.length - nn) ++ ky.drop nn ++ (flag1 c.del ++ [UInt8.ofNat c.val.length]) ++ c.val)) := d30
                  have x30 := getD_form d30
                  clear d30
                  generalize hP : pre ++ two nn ++ two (ky.length - nn) ++ ky.drop nn ++ (flag1 c.del ++ [UInt8.ofNat c.val.length]) ++ c.val = P at x30
                  go_simp
                  exact hK _ _ (by rw [← hP]; rfl) (Old.re _) hS
                simp at ho
              · rw [hd] at f4
                have q9 := Lib.hid (show (Value.int .u8 1) = .int .u8 (delI c) by simp [delI, hd])
                clear hd
                go_wp2_with fail
                refine wp_region_runs (by kernel_rfl) (bldS w b off k c) (bldV b off l.length cap k nn pre ky c) bldD 32 rfl (by kernel_rfl) ?ra3 ?rb3 (bldV_stab b off l.length cap k nn pre ky c) (SS.old (Old.re _).dr) ?rc3 ?rd3
                case ra3 => (intro i hi; simp only [List.size_toArray, List.length_cons, List.length_nil]; unfold bldD; split <;> omega)
                case rb3 => (intro i j hi hj h; unfold bldD at h; split at h <;> split at h <;> omega)
                case rd3 =>
                  intro e W hS hdf hsz hrest hall
                  have r5 : e.tmps.getD 5 undef = .string (B (pre ++ two nn ++ two (ky.length - nn) ++ ky.drop nn ++ (flag1 c.del ++ [UInt8.ofNat c.val.length]) ++ c.val)) := hall 31 (by omega)
                  have r0 : e.tmps.getD 0 undef = .slice (some ⟨b, off, none⟩) l.length cap := hrest 0 (bldD_lt 0 (by omega) (by omega))
                  have r6 : e.tmps.getD 6 undef = .int .i64 (k : Nat) := hrest 6 (bldD_lt 6 (by omega) (by omega))
                  generalize hP : pre ++ two nn ++ two (ky.length - nn) ++ ky.drop nn ++ (flag1 c.del ++ [UInt8.ofNat c.val.length]) ++ c.val = P at r5
                  have HP := Lib.hid hP
                  clear hP
                  have r1 := hrest 1 (bldD_lt 1 (by omega) (by omega))
                  conv at r1 => rhs; whnf
                  try change _ = undef at r1
                  have r2 := hrest 2 (bldD_lt 2 (by omega) (by omega))
                  conv at r2 => rhs; whnf
                  try change _ = undef at r2
                  have r3 := hrest 3 (bldD_lt 3 (by omega) (by omega))
                  conv at r3 => rhs; whnf
                  try change _ = undef at r3
                  have r4 := hrest 4 (bldD_lt 4 (by omega) (by omega))
                  conv at r4 => rhs; whnf
                  try change _ = undef at r4
                  have r7 := hrest 7 (bldD_lt 7 (by omega) (by omega))
                  conv at r7 => rhs; whnf
                  try change _ = undef at r7
                  have r8 := hrest 8 (bldD_lt 8 (by omega) (by omega))
                  conv at r8 => rhs; whnf
                  try change _ = undef at r8
                  have r9 := hrest 9 (bldD_lt 9 (by omega) (by omega))
                  conv at r9 => rhs; whnf
                  try change _ = undef at r9
                  have r10 := hrest 10 (bldD_lt 10 (by omega) (by omega))
                  conv at r10 => rhs; whnf
                  try change _ = undef at r10
                  have r11 := hrest 11 (bldD_lt 11 (by omega) (by omega))
                  conv at r11 => rhs; whnf
                  try change _ = undef at r11
                  have r12 := hrest 12 (bldD_lt 12 (by omega) (by omega))
                  conv at r12 => rhs; whnf
                  try change _ = undef at r12
                  have r13 := hrest 13 (bldD_lt 13 (by omega) (by omega))
                  conv at r13 => rhs; whnf
                  try change _ = undef at r13
                  have r14 := hrest 14 (bldD_lt 14 (by omega) (by omega))
                  conv at r14 => rhs; whnf
                  try change _ = undef at r14
                  have r15 := hrest 15 (bldD_lt 15 (by omega) (by omega))
                  conv at r15 => rhs; whnf
                  try change _ = undef at r15
                  have r16 := hrest 16 (bldD_lt 16 (by omega) (by omega))
                  conv at r16 => rhs; whnf
                  try change _ = undef at r16
                  have r17 := hrest 17 (bldD_lt 17 (by omega) (by omega))
                  conv at r17 => rhs; whnf
                  try change _ = undef at r17
                  have r18 := hrest 18 (bldD_lt 18 (by omega) (by omega))
                  conv at r18 => rhs; whnf
                  try change _ = undef at r18
                  have r19 := hrest 19 (bldD_lt 19 (by omega) (by omega))
                  conv at r19 => rhs; whnf
                  try change _ = undef at r19
                  have r20 := hrest 20 (bldD_lt 20 (by omega) (by omega))
                  conv at r20 => rhs; whnf
                  try change _ = undef at r20
                  have r21 := hrest 21 (bldD_lt 21 (by omega) (by omega))
                  conv at r21 => rhs; whnf
                  try change _ = undef at r21
                  have r22 := hrest 22 (bldD_lt 22 (by omega) (by omega))
                  conv at r22 => rhs; whnf
                  try change _ = undef at r22
                  have r23 := hrest 23 (bldD_lt 23 (by omega) (by omega))
                  conv at r23 => rhs; whnf
                  try change _ = undef at r23
                  have r24 := hrest 24 (bldD_lt 24 (by omega) (by omega))
                  conv at r24 => rhs; whnf
                  try change _ = undef at r24
                  have r25 := hrest 25 (bldD_lt 25 (by omega) (by omega))
                  conv at r25 => rhs; whnf
                  try change _ = undef at r25
                  have r26 := hrest 26 (bldD_lt 26 (by omega) (by omega))
                  conv at r26 => rhs; whnf
                  try change _ = undef at r26
                  have r27 := hrest 27 (bldD_lt 27 (by omega) (by omega))
                  conv at r27 => rhs; whnf
                  try change _ = undef at r27
                  have r28 := hrest 28 (bldD_lt 28 (by omega) (by omega))
                  conv at r28 => rhs; whnf
                  try change _ = undef at r28
                  have r29 := hrest 29 (bldD_lt 29 (by omega) (by omega))
                  conv at r29 => rhs; whnf
                  try change _ = undef at r29
                  have r30 := hrest 30 (bldD_lt 30 (by omega) (by omega))
                  conv at r30 => rhs; whnf
                  try change _ = undef at r30
                  have r31 := hrest 31 (bldD_lt 31 (by omega) (by omega))
                  conv at r31 => rhs; whnf
                  try change _ = undef at r31
                  have r32 := hrest 32 (bldD_lt 32 (by omega) (by omega))
                  conv at r32 => rhs; whnf
                  try change _ = undef at r32
                  have r33 := hrest 33 (bldD_lt 33 (by omega) (by omega))
                  conv at r33 => rhs; whnf
                  try change _ = undef at r33
                  have r34 := hrest 34 (bldD_lt 34 (by omega) (by omega))
                  conv at r34 => rhs; whnf
                  try change _ = undef at r34
                  have r35 := hrest 35 (bldD_lt 35 (by omega) (by omega))
                  conv at r35 => rhs; whnf
                  try change _ = undef at r35
                  have r36 := hrest 36 (bldD_lt 36 (by omega) (by omega))
                  conv at r36 => rhs; whnf
                  try change _ = undef at r36
                  have r37 := hrest 37 (bldD_lt 37 (by omega) (by omega))
                  conv at r37 => rhs; whnf
                  try change _ = undef at r37
                  have r38 := hrest 38 (bldD_lt 38 (by omega) (by omega))
                  conv at r38 => rhs; whnf
                  try change _ = undef at r38
                  have r39 := hrest 39 (bldD_lt 39 (by omega) (by omega))
                  conv at r39 => rhs; whnf
                  try change _ = undef at r39
                  have r40 := hrest 40 (bldD_lt 40 (by omega) (by omega))
                  conv at r40 => rhs; whnf
                  try change _ = undef at r40
                  have r41 := hrest 41 (bldD_lt 41 (by omega) (by omega))
                  conv at r41 => rhs; whnf
                  try change _ = undef at r41
                  have r42 := hrest 42 (bldD_lt 42 (by omega) (by omega))
                  conv at r42 => rhs; whnf
                  try change _ = undef at r42
                  have r43 := hrest 43 (bldD_lt 43 (by omega) (by omega))
                  conv at r43 => rhs; whnf
                  try change _ = undef at r43
                  have r44 := hrest 44 (bldD_lt 44 (by omega) (by omega))
                  conv at r44 => rhs; whnf
                  try change _ = undef at r44
                  have r45 := hrest 45 (bldD_lt 45 (by omega) (by omega))
                  conv at r45 => rhs; whnf
                  try change _ = undef at r45
                  have r46 := hrest 46 (bldD_lt 46 (by omega) (by omega))
                  conv at r46 => rhs; whnf
                  try change _ = undef at r46
                  have r47 := hrest 47 (bldD_lt 47 (by omega) (by omega))
                  conv at r47 => rhs; whnf
                  try change _ = undef at r47
                  have r48 := hrest 48 (bldD_lt 48 (by omega) (by omega))
                  conv at r48 => rhs; whnf
                  try change _ = undef at r48
                  have r49 := hrest 49 (bldD_lt 49 (by omega) (by omega))
                  conv at r49 => rhs; whnf
                  try change _ = undef at r49
                  have r50 := hrest 50 (bldD_lt 50 (by omega) (by omega))
                  conv at r50 => rhs; whnf
                  try change _ = undef at r50
                  have r51 := hrest 51 (bldD_lt 51 (by omega) (by omega))
                  conv at r51 => rhs; whnf
                  try change _ = undef at r51
                  have r52 := hrest 52 (bldD_lt 52 (by omega) (by omega))
                  conv at r52 => rhs; whnf
                  try change _ = undef at r52
                  have r53 := hrest 53 (bldD_lt 53 (by omega) (by omega))
                  conv at r53 => rhs; whnf
                  try change _ = undef at r53
                  have r54 := hrest 54 (bldD_lt 54 (by omega) (by omega))
                  conv at r54 => rhs; whnf
                  try change _ = undef at r54
                  have r55 := hrest 55 (bldD_lt 55 (by omega) (by omega))
                  conv at r55 => rhs; whnf
                  try change _ = undef at r55
                  have r56 := hrest 56 (bldD_lt 56 (by omega) (by omega))
                  conv at r56 => rhs; whnf
                  try change _ = undef at r56
                  have r57 := hrest 57 (bldD_lt 57 (by omega) (by omega))
                  conv at r57 => rhs; whnf
                  try change _ = undef at r57
                  have r58 := hrest 58 (bldD_lt 58 (by omega) (by omega))
                  conv at r58 => rhs; whnf
                  try change _ = undef at r58
                  have r59 := hrest 59 (bldD_lt 59 (by omega) (by omega))
                  conv at r59 => rhs; whnf
                  try change _ = undef at r59
                  have r91 := hrest 91 bldD_91
                  conv at r91 => rhs; whnf
                  try change _ = undef at r91
                  clear hrest hall
                  obtain ⟨bt, bd⟩ := e
                  simp only at hdf hsz
                  subst hdf
                  have hlit := arr_lit bt hsz
                  rw [r0, r1, r2, r3, r4, r5, r6, r7, r8, r9, r10, r11, r12, r13, r14, r15, r16, r17, r18, r19, r20, r21, r22, r23, r24, r25, r26, r27, r28, r29, r30, r31, r32, r33, r34, r35, r36, r37, r38, r39, r40, r41, r42, r43, r44, r45, r46, r47, r48, r49, r50, r51, r52, r53, r54, r55, r56, r57, r58, r59, r91] at hlit
                  clear r0 r1 r2 r3 r4 r5 r6 r7 r8 r9 r10 r11 r12 r13 r14 r15 r16 r17 r18 r19 r20 r21 r22 r23 r24 r25 r26 r27 r28 r29 r30 r31 r32 r33 r34 r35 r36 r37 r38 r39 r40 r41 r42 r43 r44 r45 r46 r47 r48 r49 r50 r51 r52 r53 r54 r55 r56 r57 r58 r59 r91 hsz
                  generalize bt.getD 60 undef = u60 at hlit
                  generalize bt.getD 61 undef = u61 at hlit
                  generalize bt.getD 62 undef = u62 at hlit
                  generalize bt.getD 63 undef = u63 at hlit
                  generalize bt.getD 64 undef = u64 at hlit
                  generalize bt.getD 65 undef = u65 at hlit
                  generalize bt.getD 66 undef = u66 at hlit
                  generalize bt.getD 67 undef = u67 at hlit
                  generalize bt.getD 68 undef = u68 at hlit
                  generalize bt.getD 69 undef = u69 at hlit
                  generalize bt.getD 70 undef = u70 at hlit
                  generalize bt.getD 71 undef = u71 at hlit
                  generalize bt.getD 72 undef = u72 at hlit
                  generalize bt.getD 73 undef = u73 at hlit
                  generalize bt.getD 74 undef = u74 at hlit
                  generalize bt.getD 75 undef = u75 at hlit
                  generalize bt.getD 76 undef = u76 at hlit
                  generalize bt.getD 77 undef = u77 at hlit
                  generalize bt.getD 78 undef = u78 at hlit
                  generalize bt.getD 79 undef = u79 at hlit
                  generalize bt.getD 80 undef = u80 at hlit
                  generalize bt.getD 81 undef = u81 at hlit
                  generalize bt.getD 82 undef = u82 at hlit
                  generalize bt.getD 83 undef = u83 at hlit
                  generalize bt.getD 84 undef = u84 at hlit
                  generalize bt.getD 85 undef = u85 at hlit
                  generalize bt.getD 86 undef = u86 at hlit
                  generalize bt.getD 87 undef = u87 at hlit
                  generalize bt.getD 88 undef = u88 at hlit
                  generalize bt.getD 89 undef = u89 at hlit
                  generalize bt.getD 90 undef = u90 at hlit
                  subst hlit
                  have h9 := hS.2
                  clear hS
                  go_wp2
                  go_roundw
                  case rel =>
                    refine ⟨k + 1, _, ky, by omega, rfl, by go_num, h9, ?_, hkl2, Lib.hid ?_, Lib.hid ?_⟩
                    · have := hel; rw [hent.out] at this; rw [← HP.out]; simp at this ⊢; omega
                    · intro _; exact ⟨c, by rw [Nat.add_sub_cancel]; exact HG.out, HK.out⟩
                    · rw [HB.out, HD.out, entsFrom, hent.out, ← HK.out, ← HP.out]
                      simp
                  case measure => simp [intOf]; omega
                intro i o ho
                rcases i with _ | i
                · obtain rfl := Option.some.inj ho
                  refine ⟨rfl, rfl, fun e W K hS hdf hrest hdep hlate hK => ?_⟩
                  clear hdf
                  have e5 : e.tmps.getD 5 undef = .string (B pre) := (hlate 31 _ rfl ⟨⟨0, .phase⟩, by simp, rfl, rfl⟩)
                  have x5 := getD_form e5
                  go_simp
                  exact hK _ _ rfl (Old.re _) hS
                rcases i with _ | i
                · obtain rfl := Option.some.inj ho
                  refine ⟨rfl, rfl, fun e W K hS hdf hrest hdep hlate hK => ?_⟩
                  clear hdf
                  have e5 : e.tmps.getD 8 undef = .int .i64 (nn : Nat) := (hrest 8 (bldD_lt 8 (by omega) (by omega)))
                  have x5 := getD_form e5
                  go_simp
                  exact hK _ _ rfl (Old.re _) hS
                rcases i with _ | i
                · obtain rfl := Option.some.inj ho
                  refine ⟨rfl, rfl, fun e W K hS hdf hrest hdep hlate hK => ?_⟩
                  clear hdf
                  have d1 : bldV b off l.length cap k nn pre ky c 1 (e.tmps.getD 61 undef) W := hdep ⟨1, .data⟩ (by simp) rfl
                  replace d1 : e.tmps.getD 61 undef = .int .i64 (nn : Nat) := d1
                  have x1 := getD_form d1
                  go_simp
                  refine (rtwo_any nn _ (by omega)).mono ?_
                  rintro r W2 ⟨rfl, hO⟩
                  exact hK _ _ rfl hO (hS.old hO)
                rcases i with _ | i
                · obtain rfl := Option.some.inj ho
                  refine ⟨rfl, rfl, fun e W K hS hdf hrest hdep hlate hK => ?_⟩
                  clear hdf
                  have d0 : bldV b off l.length cap k nn pre ky c 0 (e.tmps.getD 60 undef) W := hdep ⟨0, .data⟩ (by simp) rfl
                  replace d0 : e.tmps.getD 60 undef = .string (B (pre)) := d0
                  have x0 := getD_form d0
                  have d2 : bldV b off l.length cap k nn pre ky c 2 (e.tmps.getD 62 undef) W := hdep ⟨2, .data⟩ (by simp) rfl
                  replace d2 : e.tmps.getD 62 undef = .string (B (two nn)) := d2
                  have x2 := getD_form d2
                  refine wp_addop d0 d2 (by simp [two, flag1_len]; omega) ?_
                  exact hK _ _ rfl (Old.re _) hS
                rcases i with _ | i
                · obtain rfl := Option.some.inj ho
                  refine ⟨rfl, rfl, fun e W K hS hdf hrest hdep hlate hK => ?_⟩
                  clear hdf
                  have e5 : e.tmps.getD 7 undef = .string (B ky) := (hrest 7 (bldD_lt 7 (by omega) (by omega)))
                  have x5 := getD_form e5
                  go_simp
                  exact hK _ _ rfl (Old.re _) hS
                rcases i with _ | i
                · obtain rfl := Option.some.inj ho
                  refine ⟨rfl, rfl, fun e W K hS hdf hrest hdep hlate hK => ?_⟩
                  clear hdf
                  have d4 : bldV b off l.length cap k nn pre ky c 4 (e.tmps.getD 64 undef) W := hdep ⟨4, .data⟩ (by simp) rfl
                  replace d4 : e.tmps.getD 64 undef = .string (B (ky)) := d4
                  have x4 := getD_form d4
                  go_simp
                  exact hK _ _ rfl (Old.re _) hS
                rcases i with _ | i
                · obtain rfl := Option.some.inj ho
                  refine ⟨rfl, rfl, fun e W K hS hdf hrest hdep hlate hK => ?_⟩
                  clear hdf
                  have e5 : e.tmps.getD 8 undef = .int .i64 (nn : Nat) := (hrest 8 (bldD_lt 8 (by omega) (by omega)))
                  have x5 := getD_form e5
                  go_simp
                  exact hK _ _ rfl (Old.re _) hS
                rcases i with _ | i
                · obtain rfl := Option.some.inj ho
                  refine ⟨rfl, rfl, fun e W K hS hdf hrest hdep hlate hK => ?_⟩
                  clear hdf
                  have d5 : bldV b off l.length cap k nn pre ky c 5 (e.tmps.getD 65 undef) W := hdep ⟨5, .data⟩ (by simp) rfl
                  replace d5 : e.tmps.getD 65 undef = .int .i64 (ky.length : Nat) := d5
                  have x5 := getD_form d5
                  have d6 : bldV b off l.length cap k nn pre ky c 6 (e.tmps.getD 66 undef) W := hdep ⟨6, .data⟩ (by simp) rfl
                  replace d6 : e.tmps.getD 66 undef = .int .i64 (nn : Nat) := d6
                  have x6 := getD_form d6
                  have hsub : ((ky.length : Nat) : Int) - ((nn : Nat) : Int) = ((ky.length - nn : Nat) : Int) := by omega
                  have hw : IntKind.i64.wrap ((ky.length - nn : Nat) : Int) = ((ky.length - nn : Nat) : Int) := by rw [IntKind.wrap_i64]; omega
                  go_simp
                  exact hK _ _ rfl (Old.re _) hS
                rcases i with _ | i
                · obtain rfl := Option.some.inj ho
                  refine ⟨rfl, rfl, fun e W K hS hdf hrest hdep hlate hK => ?_⟩
                  clear hdf
                  have d7 : bldV b off l.length cap k nn pre ky c 7 (e.tmps.getD 67 undef) W := hdep ⟨7, .data⟩ (by simp) rfl
                  replace d7 : e.tmps.getD 67 undef = .int .i64 (ky.length - nn : Nat) := d7
                  have x7 := getD_form d7
                  go_simp
                  refine (rtwo_any (ky.length - nn) _ (by omega)).mono ?_
                  rintro r W2 ⟨rfl, hO⟩
                  exact hK _ _ rfl hO (hS.old hO)
                rcases i with _ | i
                · obtain rfl := Option.some.inj ho
                  refine ⟨rfl, rfl, fun e W K hS hdf hrest hdep hlate hK => ?_⟩
                  clear hdf
                  have d3 : bldV b off l.length cap k nn pre ky c 3 (e.tmps.getD 63 undef) W := hdep ⟨3, .data⟩ (by simp) rfl
                  replace d3 : e.tmps.getD 63 undef = .string (B (pre ++ two nn)) := d3
                  have x3 := getD_form d3
                  have d8 : bldV b off l.length cap k nn pre ky c 8 (e.tmps.getD 68 undef) W := hdep ⟨8, .data⟩ (by simp) rfl
                  replace d8 : e.tmps.getD 68 undef = .string (B (two (ky.length - nn))) := d8
                  have x8 := getD_form d8
                  refine wp_addop d3 d8 (by simp [two, flag1_len]; omega) ?_
                  exact hK _ _ rfl (Old.re _) hS
                rcases i with _ | i
                · obtain rfl := Option.some.inj ho
                  refine ⟨rfl, rfl, fun e W K hS hdf hrest hdep hlate hK => ?_⟩
                  clear hdf
                  have e5 : e.tmps.getD 7 undef = .string (B ky) := (hrest 7 (bldD_lt 7 (by omega) (by omega)))
                  have x5 := getD_form e5
                  go_simp
                  exact hK _ _ rfl (Old.re _) hS
                rcases i with _ | i
                · obtain rfl := Option.some.inj ho
                  refine ⟨rfl, rfl, fun e W K hS hdf hrest hdep hlate hK => ?_⟩
                  clear hdf
                  have e5 : e.tmps.getD 8 undef = .int .i64 (nn : Nat) := (hrest 8 (bldD_lt 8 (by omega) (by omega)))
                  have x5 := getD_form e5
                  go_simp
                  exact hK _ _ rfl (Old.re _) hS
                rcases i with _ | i
                · obtain rfl := Option.some.inj ho
                  refine ⟨rfl, rfl, fun e W K hS hdf hrest hdep hlate hK => ?_⟩
                  clear hdf
                  have d10 : bldV b off l.length cap k nn pre ky c 10 (e.tmps.getD 70 undef) W := hdep ⟨10, .data⟩ (by simp) rfl
                  replace d10 : e.tmps.getD 70 undef = .string (B (ky)) := d10
                  have x10 := getD_form d10
                  have d11 : bldV b off l.length cap k nn pre ky c 11 (e.tmps.getD 71 undef) W := hdep ⟨11, .data⟩ (by simp) rfl
                  replace d11 : e.tmps.getD 71 undef = .int .i64 (nn : Nat) := d11
                  have x11 := getD_form d11
                  have hle : ((nn : Nat) : Int) ≤ ((ky.length : Nat) : Int) := by omega
                  have xd : (B ky).extract nn ky.length = B (ky.drop nn) := ext_drop _ _ _ (Nat.le_refl _)
                  go_simp
                  exact hK _ _ rfl (Old.re _) hS
                rcases i with _ | i
                · obtain rfl := Option.some.inj ho
                  refine ⟨rfl, rfl, fun e W K hS hdf hrest hdep hlate hK => ?_⟩
                  clear hdf
                  have d9 : bldV b off l.length cap k nn pre ky c 9 (e.tmps.getD 69 undef) W := hdep ⟨9, .data⟩ (by simp) rfl
                  replace d9 : e.tmps.getD 69 undef = .string (B (pre ++ two nn ++ two (ky.length - nn))) := d9
                  have x9 := getD_form d9
                  have d12 : bldV b off l.length cap k nn pre ky c 12 (e.tmps.getD 72 undef) W := hdep ⟨12, .data⟩ (by simp) rfl
                  replace d12 : e.tmps.getD 72 undef = .string (B (ky.drop nn)) := d12
                  have x12 := getD_form d12
                  refine wp_addop d9 d12 (by simp [two, flag1_len]; omega) ?_
                  exact hK _ _ rfl (Old.re _) hS
                rcases i with _ | i
                · obtain rfl := Option.some.inj ho
                  refine ⟨rfl, rfl, fun e W K hS hdf hrest hdep hlate hK => ?_⟩
                  clear hdf
                  have e5 : e.tmps.getD 9 undef = .int .u8 (delI c) := (hrest 9 (bldD_lt 9 (by omega) (by omega))).trans q9.out
                  have x5 := getD_form e5
                  go_simp
                  exact hK _ _ rfl (Old.re _) hS
                rcases i with _ | i
                · obtain rfl := Option.some.inj ho
                  refine ⟨rfl, rfl, fun e W K hS hdf hrest hdep hlate hK => ?_⟩
                  clear hdf
                  have e5 : e.tmps.getD 0 undef = .slice (some ⟨b, off, none⟩) l.length cap := (hrest 0 (bldD_lt 0 (by omega) (by omega)))
                  have x5 := getD_form e5
                  go_simp
                  exact hK _ _ rfl (Old.re _) hS
                rcases i with _ | i
                · obtain rfl := Option.some.inj ho
                  refine ⟨rfl, rfl, fun e W K hS hdf hrest hdep hlate hK => ?_⟩
                  clear hdf
                  have e5 : e.tmps.getD 6 undef = .int .i64 (k : Nat) := (hrest 6 (bldD_lt 6 (by omega) (by omega)))
                  have x5 := getD_form e5
                  go_simp
                  exact hK _ _ rfl (Old.re _) hS
                rcases i with _ | i
                · obtain rfl := Option.some.inj ho
                  refine ⟨rfl, rfl, fun e W K hS hdf hrest hdep hlate hK => ?_⟩
                  clear hdf
                  have d15 : bldV b off l.length cap k nn pre ky c 15 (e.tmps.getD 75 undef) W := hdep ⟨15, .data⟩ (by simp) rfl
                  replace d15 : e.tmps.getD 75 undef = .slice (some ⟨b, off, none⟩) l.length cap := d15
                  have x15 := getD_form d15
                  have d16 : bldV b off l.length cap k nn pre ky c 16 (e.tmps.getD 76 undef) W := hdep ⟨16, .data⟩ (by simp) rfl
                  replace d16 : e.tmps.getD 76 undef = .int .i64 (k : Nat) := d16
                  have x16 := getD_form d16
                  have hk1 : ((k : Nat) : Int) < ((l.length : Nat) : Int) := by omega
                  go_simp
                  exact hK _ _ rfl (Old.re _) hS
                rcases i with _ | i
                · obtain rfl := Option.some.inj ho
                  refine ⟨rfl, rfl, fun e W K hS hdf hrest hdep hlate hK => ?_⟩
                  clear hdf
                  have d17 : bldV b off l.length cap k nn pre ky c 17 (e.tmps.getD 77 undef) W := hdep ⟨17, .data⟩ (by simp) rfl
                  replace d17 : e.tmps.getD 77 undef = .pointer (some ⟨b, off + k * 6, none⟩) := d17
                  have x17 := getD_form d17
                  go_simp
                  exact hK _ _ rfl (Old.re _) hS
                rcases i with _ | i
                · obtain rfl := Option.some.inj ho
                  refine ⟨rfl, rfl, fun e W K hS hdf hrest hdep hlate hK => ?_⟩
                  clear hdf
                  have d18 : bldV b off l.length cap k nn pre ky c 18 (e.tmps.getD 78 undef) W := hdep ⟨18, .data⟩ (by simp) rfl
                  replace d18 : e.tmps.getD 78 undef = .pointer (some ⟨b, off + k * 6 + 5, none⟩) := d18
                  have x18 := getD_form d18
                  obtain ⟨f0, f1, f2, f3, f4, f5⟩ := hS.1.held
                  go_simp
                  exact hK _ _ rfl (Old.re _) hS
                rcases i with _ | i
                · obtain rfl := Option.some.inj ho
                  refine ⟨rfl, rfl, fun e W K hS hdf hrest hdep hlate hK => ?_⟩
                  clear hdf
                  have d19 : bldV b off l.length cap k nn pre ky c 19 (e.tmps.getD 79 undef) W := hdep ⟨19, .data⟩ (by simp) rfl
                  replace d19 : e.tmps.getD 79 undef = .string (B (c.val)) := d19
                  have x19 := getD_form d19
                  go_simp
                  exact hK _ _ rfl (Old.re _) hS
                rcases i with _ | i
                · obtain rfl := Option.some.inj ho
                  refine ⟨rfl, rfl, fun e W K hS hdf hrest hdep hlate hK => ?_⟩
                  clear hdf
                  have d20 : bldV b off l.length cap k nn pre ky c 20 (e.tmps.getD 80 undef) W := hdep ⟨20, .data⟩ (by simp) rfl
                  replace d20 : e.tmps.getD 80 undef = .int .i64 (c.val.length : Nat) := d20
                  have x20 := getD_form d20
                  have hw3 : IntKind.u8.wrap (c.val.length : Int) = (c.val.length : Int) := by rw [IntKind.wrap_u8]; omega
                  go_simp
                  exact hK _ _ rfl (Old.re _) hS
                rcases i with _ | i
                · obtain rfl := Option.some.inj ho
                  refine ⟨rfl, rfl, fun e W K hS hdf hrest hdep hlate hK => ?_⟩
                  clear hdf
                  have d14 : bldV b off l.length cap k nn pre ky c 14 (e.tmps.getD 74 undef) W := hdep ⟨14, .data⟩ (by simp) rfl
                  replace d14 : e.tmps.getD 74 undef = .int .u8 (delI c) := d14
                  have x14 := getD_form d14
                  have d21 : bldV b off l.length cap k nn pre ky c 21 (e.tmps.getD 81 undef) W := hdep ⟨21, .data⟩ (by simp) rfl
                  replace d21 : e.tmps.getD 81 undef = .int .u8 (c.val.length : Nat) := d21
                  have x21 := getD_form d21
                  go_simp
                  rw [flag_cells c c.val.length (by omega)]
                  exact hK _ _ ⟨W.heap.size, rfl, new_bk _ _ _⟩ ((Old.re _).al _) (hS.old ((Old.re _).al _))
                rcases i with _ | i
                · obtain rfl := Option.some.inj ho
                  refine ⟨rfl, rfl, fun e W K hS hdf hrest hdep hlate hK => ?_⟩
                  clear hdf
                  have d22 : bldV b off l.length cap k nn pre ky c 22 (e.tmps.getD 82 undef) W := hdep ⟨22, .data⟩ (by simp) rfl
                  obtain ⟨g22, d22, b22⟩ := d22
                  have x22 := getD_form d22
                  have hcv : (convert 56 9 (.slice (some ⟨g22, 0, none⟩) 2 2)).run Tryz.prog W = .ok (.string (B (flag1 c.del ++ [UInt8.ofNat c.val.length]))) W := by
                    have ho := Own.blk (base := 0) (Nat.zero_le _) b22 (by simp [flag1_len])
                    rw [show (flag1 c.del ++ [UInt8.ofNat c.val.length]).length = 2 by simp [flag1_len]] at ho
                    exact run_str ho
                  go_simp
                  exact hK _ _ rfl (Old.re _) hS
                rcases i with _ | i
                · obtain rfl := Option.some.inj ho
                  refine ⟨rfl, rfl, fun e W K hS hdf hrest hdep hlate hK => ?_⟩
                  clear hdf
                  have d13 : bldV b off l.length cap k nn pre ky c 13 (e.tmps.getD 73 undef) W := hdep ⟨13, .data⟩ (by simp) rfl
                  replace d13 : e.tmps.getD 73 undef = .string (B (pre ++ two nn ++ two (ky.length - nn) ++ ky.drop nn)) := d13
                  have x13 := getD_form d13
                  have d23 : bldV b off l.length cap k nn pre ky c 23 (e.tmps.getD 83 undef) W := hdep ⟨23, .data⟩ (by simp) rfl
                  replace d23 : e.tmps.getD 83 undef = .string (B (flag1 c.del ++ [UInt8.ofNat c.val.length])) := d23
                  have x23 := getD_form d23
                  refine wp_addop d13 d23 (by simp [two, flag1_len]; omega) ?_
                  exact hK _ _ rfl (Old.re _) hS
                rcases i with _ | i
                · obtain rfl := Option.some.inj ho
                  refine ⟨rfl, rfl, fun e W K hS hdf hrest hdep hlate hK => ?_⟩
                  clear hdf
                  have e5 : e.tmps.getD 0 undef = .slice (some ⟨b, off, none⟩) l.length cap := (hrest 0 (bldD_lt 0 (by omega) (by omega)))
                  have x5 := getD_form e5
                  go_simp
                  exact hK _ _ rfl (Old.re _) hS
                rcases i with _ | i
                · obtain rfl := Option.some.inj ho
                  refine ⟨rfl, rfl, fun e W K hS hdf hrest hdep hlate hK => ?_⟩
                  clear hdf
                  have e5 : e.tmps.getD 6 undef = .int .i64 (k : Nat) := (hrest 6 (bldD_lt 6 (by omega) (by omega)))
                  have x5 := getD_form e5
                  go_simp
                  exact hK _ _ rfl (Old.re _) hS
                rcases i with _ | i
                · obtain rfl := Option.some.inj ho
                  refine ⟨rfl, rfl, fun e W K hS hdf hrest hdep hlate hK => ?_⟩
                  clear hdf
                  have d25 : bldV b off l.length cap k nn pre ky c 25 (e.tmps.getD 85 undef) W := hdep ⟨25, .data⟩ (by simp) rfl
                  replace d25 : e.tmps.getD 85 undef = .slice (some ⟨b, off, none⟩) l.length cap := d25
                  have x25 := getD_form d25
                  have d26 : bldV b off l.length cap k nn pre ky c 26 (e.tmps.getD 86 undef) W := hdep ⟨26, .data⟩ (by simp) rfl
                  replace d26 : e.tmps.getD 86 undef = .int .i64 (k : Nat) := d26
                  have x26 := getD_form d26
                  have hk1 : ((k : Nat) : Int) < ((l.length : Nat) : Int) := by omega
                  go_simp
                  exact hK _ _ rfl (Old.re _) hS
                rcases i with _ | i
                · obtain rfl := Option.some.inj ho
                  refine ⟨rfl, rfl, fun e W K hS hdf hrest hdep hlate hK => ?_⟩
                  clear hdf
                  have d27 : bldV b off l.length cap k nn pre ky c 27 (e.tmps.getD 87 undef) W := hdep ⟨27, .data⟩ (by simp) rfl
                  replace d27 : e.tmps.getD 87 undef = .pointer (some ⟨b, off + k * 6, none⟩) := d27
                  have x27 := getD_form d27
                  go_simp
                  exact hK _ _ rfl (Old.re _) hS
                rcases i with _ | i
                · obtain rfl := Option.some.inj ho
                  refine ⟨rfl, rfl, fun e W K hS hdf hrest hdep hlate hK => ?_⟩
                  clear hdf
                  have d28 : bldV b off l.length cap k nn pre ky c 28 (e.tmps.getD 88 undef) W := hdep ⟨28, .data⟩ (by simp) rfl
                  replace d28 : e.tmps.getD 88 undef = .pointer (some ⟨b, off + k * 6 + 5, none⟩) := d28
                  have x28 := getD_form d28
                  obtain ⟨f0, f1, f2, f3, f4, f5⟩ := hS.1.held
                  go_simp
                  exact hK _ _ rfl (Old.re _) hS
                rcases i with _ | i
                · obtain rfl := Option.some.inj ho
                  refine ⟨rfl, rfl, fun e W K hS hdf hrest hdep hlate hK => ?_⟩
                  clear hdf
                  have d24 : bldV b off l.length cap k nn pre ky c 24 (e.tmps.getD 84 undef) W := hdep ⟨24, .data⟩ (by simp) rfl
                  replace d24 : e.tmps.getD 84 undef = .string (B (pre ++ two nn ++ two (ky.length - nn) ++ ky.drop nn ++ (flag1 c.del ++ [UInt8.ofNat c.val.length]))) := d24
                  have x24 := getD_form d24
                  have d29 : bldV b off l.length cap k nn pre ky c 29 (e.tmps.getD 89 undef) W := hdep ⟨29, .data⟩ (by simp) rfl
                  replace d29 : e.tmps.getD 89 undef = .string (B (c.val)) := d29
                  have x29 := getD_form d29
                  refine wp_addop d24 d29 (by simp [two, flag1_len]; omega) ?_
                  exact hK _ _ rfl (Old.re _) hS
                rcases i with _ | i
                · obtain rfl := Option.some.inj ho
                  refine ⟨rfl, rfl, fun e W K hS hdf hrest hdep hlate hK => ?_⟩
                  clear hdf
                  have d30 : bldV b off l.length cap k nn pre ky c 30 (e.tmps.getD 90 undef) W := hdep ⟨30, .data⟩ (by simp) rfl
                  replace d30 : e.tmps.getD 90 undef = .string (B (pre ++ two nn ++ two (ky.length - nn) ++ ky.drop nn ++ (flag1 c.del ++ [UInt8.ofNat c.val.length]) ++ c.val)) := d30
                  have x30 := getD_form d30
                  clear d30
                  generalize hP : pre ++ two nn ++ two (ky.length - nn) ++ ky.drop nn ++ (flag1 c.del ++ [UInt8.ofNat c.val.length]) ++ c.val = P at x30
                  go_simp
                  exact hK _ _ (by rw [← hP]; rfl) (Old.re _) hS
                simp at ho
          · have hkl : k = l.length := by omega
            have HP := Lib.hid (show blk l = pre by rw [HB.out, hkl]; simp [entsFrom])
            go_wp2
            go_ret2
            exact ⟨by rw [HV.out, HP.out]; rfl, hw⟩
end Go.Proofs.YtlmlopdakbbbjaaGreatDoor
