/-
  Encode of the reference, in whatever order its statements are worked out. Conditions: lengths as written.
-/
import Derived.Test.YteglddggjkibcaaFInv
namespace Go.Proofs.Yteglddggjkibcaa
open Go.RowKit Go.Shelf
set_option linter.unusedSimpArgs false

theorem getD_form {b : Act} {t : Nat} {v : Value} (h : b.tmps.getD t undef = v) : b.tmps[t]?.getD undef = v := by
  rw [← Array.getD_eq_getD_getElem?]; exact h
/-- An operation that puts one text behind another. -/
theorem wp_addop {b : Act} {W : World} {K : Act → World → Prop} {Q : Exit → Act → World → Prop} {d x y : Nat} {ty : TypeId} {pos : String} {aft : Array Edge} {p q : List UInt8}
    (hx : b.tmps.getD x undef = .string (B p)) (hy : b.tmps.getD y undef = .string (B q)) (hl : p.length + q.length ≤ 100000) (h : K (b.put (some d) (.string (B (p ++ q)))) W) :
    Oper.wp Try.prog ⟨some d, .binOp .add 9 (.tmp x) (.tmp y) 9, ty, pos, aft, none⟩ b W K Q := by
  have hn : ¬ (9223372036854775807 < p.length + q.length) := by omega
  have hx2 := getD_form hx
  have hy2 := getD_form hy
  rw [← add_B] at h
  go_simp
  exact h
theorem two_cells (n : Nat) (h : n < 65536) : (#[.int .u8 ((n : Int) % 256), .int .u8 ((n : Int) / 256)] : Array Value) = (bs (lowN n 2)).toArray := by
  rw [low2]
  simp [bs]; omega
/-- string of a row of bytes. -/
theorem conv_row {W : World} {g : Nat} {l : List UInt8} {n : Nat} (h : Bk W g 5 (bs l).toArray) (hn : l.length = n) (hl : n ≤ 1000) : (convert 81 9 (.slice (some ⟨g, 0, none⟩) n n)).run Try.prog W = .ok (.string (B l)) W := by
  subst hn
  exact run_str (Own.blk (base := 0) (Nat.zero_le _) h hl)
/-- What each operation of that statement yields. -/
def v13 (h : Nat) (Aa : Option Addr) (ca : Nat) (e : Ed) (i : Nat) (v : Value) (W : World) : Prop := match i with
  | 0 => v = .pointer (some ⟨h, 2, none⟩)
  | 1 => v = .int .u64 (e.next : Int)
  | 2 => v = .string (B (lowN e.next 8))
  | 3 => v = .pointer (some ⟨h, 3, none⟩)
  | 4 => v = .int .u64 (e.fl : Int)
  | 5 => v = .string (B (lowN e.fl 8))
  | 6 => v = .string (B (lowN e.next 8 ++ lowN e.fl 8))
  | 7 => v = .pointer (some ⟨h, 0, none⟩)
  | 8 => v = .slice Aa e.add.length ca
  | 9 => v = .int .i64 ((e.add.length : Int))
  | 10 => v = .int .u8 ((e.add.length : Int))
  | 11 => ∃ g, v = .slice (some ⟨g, 0, none⟩) 1 1 ∧ Bk W g 5 (bs (lowN e.add.length 1)).toArray
  | 12 => v = .string (B (lowN e.add.length 1))
  | 13 => v = .string (B (lowN e.next 8 ++ lowN e.fl 8 ++ lowN e.add.length 1))
  | 14 => v = .string (B (lowN e.next 8 ++ lowN e.fl 8 ++ lowN e.add.length 1))
  | _ => False
theorem v13_stab (h : Nat) (Aa : Option Addr) (ca : Nat) (e : Ed) (i : Nat) (u : Value) (W W' : World) (hO : Old W W') (hv : v13 h Aa ca e i u W) : v13 h Aa ca e i u W' := by
  revert hv
  unfold v13
  split <;> first
    | exact id
    | (rintro ⟨g, e, hb⟩; exact ⟨g, e, hb.old hO⟩)
/-- What each operation of that statement yields. -/
def v18 (g : Nat) (p : List UInt8) (lv mn : Nat) (nm lo hi : List UInt8) (i : Nat) (v : Value) (W : World) : Prop := match i with
  | 0 => v = .string (B (p))
  | 1 => v = .pointer (some ⟨g, 0, none⟩)
  | 2 => v = .int .i64 ((lv : Int))
  | 3 => v = .int .u8 ((lv : Int))
  | 4 => ∃ g, v = .slice (some ⟨g, 0, none⟩) 1 1 ∧ Bk W g 5 (bs (lowN lv 1)).toArray
  | 5 => v = .string (B (lowN lv 1))
  | 6 => v = .string (B (p ++ lowN lv 1))
  | 7 => v = .pointer (some ⟨g, 1, none⟩)
  | 8 => v = .string (B (nm))
  | 9 => v = .string (B (short nm))
  | 10 => v = .string (B (p ++ lowN lv 1 ++ short nm))
  | 11 => v = .pointer (some ⟨g, 2, none⟩)
  | 12 => v = .string (B (lo))
  | 13 => v = .string (B (short lo))
  | 14 => v = .string (B (p ++ lowN lv 1 ++ short nm ++ short lo))
  | 15 => v = .pointer (some ⟨g, 3, none⟩)
  | 16 => v = .string (B (hi))
  | 17 => v = .string (B (short hi))
  | 18 => v = .string (B (p ++ lowN lv 1 ++ short nm ++ short lo ++ short hi))
  | 19 => v = .pointer (some ⟨g, 4, none⟩)
  | 20 => v = .int .i64 ((mn : Int))
  | 21 => v = .int .i64 ((mn : Int) % 256)
  | 22 => v = .int .u8 ((mn : Int) % 256)
  | 23 => v = .pointer (some ⟨g, 4, none⟩)
  | 24 => v = .int .i64 ((mn : Int))
  | 25 => v = .int .i64 ((mn : Int) / 256)
  | 26 => v = .int .u8 ((mn : Int) / 256)
  | 27 => ∃ g, v = .slice (some ⟨g, 0, none⟩) 2 2 ∧ Bk W g 5 (bs (lowN mn 2)).toArray
  | 28 => v = .string (B (lowN mn 2))
  | 29 => v = .string (B (p ++ lowN lv 1 ++ short nm ++ short lo ++ short hi ++ lowN mn 2))
  | 30 => v = .string (B (p ++ lowN lv 1 ++ short nm ++ short lo ++ short hi ++ lowN mn 2))
  | _ => False
theorem v18_stab (g : Nat) (p : List UInt8) (lv mn : Nat) (nm lo hi : List UInt8) (i : Nat) (u : Value) (W W' : World) (hO : Old W W') (hv : v18 g p lv mn nm lo hi i u W) : v18 g p lv mn nm lo hi i u W' := by
  revert hv
  unfold v18
  split <;> first
    | exact id
    | (rintro ⟨g, e, hb⟩; exact ⟨g, e, hb.old hO⟩)
set_option maxRecDepth 100000 in
set_option maxHeartbeats 16000000 in
theorem rencode_any (w : World) (e : Ed) (va : Value) (Ad : Option Addr) (dc : Nat) (ha : Itms w va e.add) (hd : Strs w Ad dc e.del) (l1 : e.add.length ≤ 1000) (l2 : e.del.length ≤ 1000) (n1 : e.next < 18446744073709551616) (n2 : e.fl < 18446744073709551616) :
    Calls Try.prog 21 #[.agg #[va, .slice Ad e.del.length dc, .int .u64 (e.next : Int), .int .u64 (e.fl : Int)]] w (PostE w (encF e)) := by
  obtain ⟨Aa, ca, rfl, -⟩ := ha.form
  have HA := Lib.hid ha
  have HD := Lib.hid hd
  clear ha hd
  go_enter Try.func21, Try.ntmps21
  go_wp2_with fail
  have B0 := Lib.hid (new_bk w 41 #[.slice Aa e.add.length ca, .slice Ad e.del.length dc, .int .u64 (e.next : Int), .int .u64 (e.fl : Int)])
  have O0 := old_alloc w (.cells #[.slice Aa e.add.length ca, .slice Ad e.del.length dc, .int .u64 (e.next : Int), .int .u64 (e.fl : Int)] 41)
  generalize w.alloc (.cells #[.slice Aa e.add.length ca, .slice Ad e.del.length dc, .int .u64 (e.next : Int), .int .u64 (e.fl : Int)] 41) = w0 at *
  obtain ⟨h, hh⟩ : ∃ h, h = w.heap.size := ⟨_, rfl⟩
  rw [← hh] at B0 ⊢
  clear hh
  go_loopw [4] (fun iv wr => ∃ k : Nat, iv = .int .i64 k ∧ k ≤ e.add.length ∧ Old w0 wr ∧ Hid ((e.add.take k).all mayF = true)) (fun iv _ => e.add.length - (intOf iv).toNat)
  case atStart => exact ⟨0, rfl, Nat.zero_le _, Old.re _, Lib.hid (by simp)⟩
  case round =>
    obtain ⟨k, rfl, hk, o1, HB⟩ := hrel
    have F1 := Lib.hid (B0.out.old o1)
    have a0 : wr.cell? ⟨h, 0, none⟩ = some (.slice Aa e.add.length ca) := F1.out.cell 0
    have a1 : wr.cell? ⟨h, 1, none⟩ = some (.slice Ad e.del.length dc) := F1.out.cell 1
    have O1 := O0.tr o1
    by_cases hlt : k < e.add.length
    · obtain ⟨x, HX⟩ : ∃ x, Hid (e.add[k]? = some x) := ⟨e.add[k], Lib.hid (List.getElem?_eq_getElem hlt)⟩
      obtain ⟨b, off, rfl, hx⟩ := (HA.out.old O1).at_ HX.out
      obtain ⟨x0, x1, x2, x3, x4⟩ := hx.held
      go_wp2_with fail
      refine (rmay_any x _).mono ?_
      rintro e1 w2 ⟨rfl, o2⟩
      have O2 := O1.tr o2
      have o3 := o1.tr o2
      clear x0 x1 x2 x3 x4 hx O1 F1 o1 o2 a0 a1
      cases hm : mayF x with
      | false =>
        have HR := Lib.hid (enc_1 (e := e) (.inl (all_no HX.out hm)))
        clear hm HB HX
        go_wp2
        go_ret2
        rw [HR.out]
        exact ⟨rfl, O2⟩
      | true =>
        have HB2 : Hid ((e.add.take (k + 1)).all mayF = true) := Lib.hid (by
          rw [← take_at HX.out, List.all_append, HB.out]
          simp [hm])
        clear hm HB HX
        go_wp2
        go_roundw
        case rel => exact ⟨k + 1, by go_num, by omega, o3, HB2⟩
        case measure => simp [intOf]; omega
    · obtain rfl : k = e.add.length := by omega
      have M1 : Hid (e.add.all mayF = true) := Lib.hid (by have := HB.out; rwa [List.take_length] at this)
      have F1 := F1
      clear HB B0 O0 o1
      go_wp2_with fail
      go_loopw [5] (fun iv wx => ∃ j : Nat, iv = .int .i64 j ∧ j ≤ e.del.length ∧ wx = wr ∧ Hid ((e.del.take j).all (nameB 59) = true)) (fun iv _ => e.del.length - (intOf iv).toNat)
      case atStart => exact ⟨0, rfl, Nat.zero_le _, rfl, Lib.hid (by simp)⟩
      case round =>
        obtain ⟨j, rfl, hj, hwx, HB⟩ := hrel
        have hwx := hwx.symm
        subst hwx
        by_cases hlt2 : j < e.del.length
        · obtain ⟨x, HX⟩ : ∃ x, Hid (e.del[j]? = some x) := ⟨e.del[j], Lib.hid (List.getElem?_eq_getElem hlt2)⟩
          obtain ⟨hln, b, off, rfl, hx⟩ := (HD.out.old O1).2 j x HX.out
          have C := Lib.hid (rname_any x 59 59 rfl wr)
          go_wp2_with fail
          refine C.out.mono ?_
          rintro e1 w2 ⟨rfl, hw2⟩
          have hw2 := hw2.symm
          subst hw2
          clear hln hx C
          cases hm : nameB 59 x with
          | false =>
            have HR := Lib.hid (enc_1 (e := e) (.inr (all_no HX.out hm)))
            clear hm HB HX
            go_wp2
            go_ret2
            rw [HR.out]
            exact ⟨rfl, O1⟩
          | true =>
            have HB2 : Hid ((e.del.take (j + 1)).all (nameB 59) = true) := Lib.hid (by
              rw [← take_at HX.out, List.all_append, HB.out]
              simp [hm])
            clear hm HB HX
            go_wp2
            go_roundw
            case rel => exact ⟨j + 1, by go_num, by omega, trivial, HB2⟩
            case measure => simp [intOf]; omega
        · obtain rfl : j = e.del.length := by omega
          have M2 : Hid (e.del.all (nameB 59) = true) := Lib.hid (by have := HB.out; rwa [List.take_length] at this)
          clear HB
          by_cases hc1 : e.add.length ≤ 255
          case neg =>
            have HR := Lib.hid (enc_71 M1.out M2.out (.inl (by omega)))
            go_wp2
            go_ret2
            rw [HR.out]
            exact ⟨rfl, O1⟩
          by_cases hc2 : e.del.length ≤ 255
          case neg =>
            have HR := Lib.hid (enc_71 M1.out M2.out (.inr (by omega)))
            go_wp2
            go_ret2
            rw [HR.out]
            exact ⟨rfl, O1⟩
          have HR := Lib.hid (enc_0 M1.out M2.out hc1 hc2)
          have d1 : decide ((255 : Int) < (e.add.length : Int)) = false := by simp; omega
          have d2 : decide ((255 : Int) < (e.del.length : Int)) = false := by simp; omega
          go_wp2_with fail
          have hw1 : IntKind.u8.wrap (e.add.length : Int) = (e.add.length : Int) := by rw [IntKind.wrap_u8]; omega
          have hw2 : IntKind.u8.wrap (e.del.length : Int) = (e.del.length : Int) := by rw [IntKind.wrap_u8]; omega
          refine wp_region_list (by kernel_rfl) (fun W => Bk W h 41 #[.slice Aa e.add.length ca, .slice Ad e.del.length dc, .int .u64 (e.next : Int), .int .u64 (e.fl : Int)] ∧ Old w W) (v13 h Aa ca e) [48, 49, 50, 51, 52, 53, 54, 55, 56, 57, 58, 59, 60, 61, 6] rfl (by kernel_rfl) (show ∀ d ∈ ([48, 49, 50, 51, 52, 53, 54, 55, 56, 57, 58, 59, 60, 61, 6] : List Nat), d < 128 by decide) (by decide) (v13_stab h Aa ca e) (⟨F1.out, O1.dr⟩) ?op13 ?end13
          case op13 =>
            intro i o ho
            rcases i with _ | i
            · obtain rfl := Option.some.inj ho
              refine ⟨rfl, rfl, fun b W K hS hdf hrest hdep hlate hK => ?_⟩
              clear hdf
              have e1 : b.tmps.getD 1 undef = .pointer (some ⟨h, 0, none⟩) := hrest 1 (by decide)
              have ef := getD_form e1
              go_simp
              exact hK _ _ rfl (Old.re _) hS
            rcases i with _ | i
            · obtain rfl := Option.some.inj ho
              refine ⟨rfl, rfl, fun b W K hS hdf hrest hdep hlate hK => ?_⟩
              clear hdf
              have d0 : v13 h Aa ca e 0 (b.tmps.getD 48 undef) W := hdep ⟨0, .data⟩ (by simp) rfl
              replace d0 : b.tmps.getD 48 undef = .pointer (some ⟨h, 2, none⟩) := d0
              have x0 := getD_form d0
              have f1 := hS.1.cell 2
              go_simp
              exact hK _ _ rfl (Old.re _) hS
            rcases i with _ | i
            · obtain rfl := Option.some.inj ho
              refine ⟨rfl, rfl, fun b W K hS hdf hrest hdep hlate hK => ?_⟩
              clear hdf
              have d1 : v13 h Aa ca e 1 (b.tmps.getD 49 undef) W := hdep ⟨1, .data⟩ (by simp) rfl
              replace d1 : b.tmps.getD 49 undef = .int .u64 (e.next : Int) := d1
              have x1 := getD_form d1
              go_simp
              refine (num01_any e.next _ n1).mono ?_
              rintro r W2 ⟨rfl, hO⟩
              exact hK _ _ rfl hO ⟨hS.1.old hO, hS.2.tr hO⟩
            rcases i with _ | i
            · obtain rfl := Option.some.inj ho
              refine ⟨rfl, rfl, fun b W K hS hdf hrest hdep hlate hK => ?_⟩
              clear hdf
              have e1 : b.tmps.getD 1 undef = .pointer (some ⟨h, 0, none⟩) := hrest 1 (by decide)
              have ef := getD_form e1
              go_simp
              exact hK _ _ rfl (Old.re _) hS
            rcases i with _ | i
            · obtain rfl := Option.some.inj ho
              refine ⟨rfl, rfl, fun b W K hS hdf hrest hdep hlate hK => ?_⟩
              clear hdf
              have d3 : v13 h Aa ca e 3 (b.tmps.getD 51 undef) W := hdep ⟨3, .data⟩ (by simp) rfl
              replace d3 : b.tmps.getD 51 undef = .pointer (some ⟨h, 3, none⟩) := d3
              have x3 := getD_form d3
              have f1 := hS.1.cell 3
              go_simp
              exact hK _ _ rfl (Old.re _) hS
            rcases i with _ | i
            · obtain rfl := Option.some.inj ho
              refine ⟨rfl, rfl, fun b W K hS hdf hrest hdep hlate hK => ?_⟩
              clear hdf
              have d4 : v13 h Aa ca e 4 (b.tmps.getD 52 undef) W := hdep ⟨4, .data⟩ (by simp) rfl
              replace d4 : b.tmps.getD 52 undef = .int .u64 (e.fl : Int) := d4
              have x4 := getD_form d4
              go_simp
              refine (num01_any e.fl _ n2).mono ?_
              rintro r W2 ⟨rfl, hO⟩
              exact hK _ _ rfl hO ⟨hS.1.old hO, hS.2.tr hO⟩
            rcases i with _ | i
            · obtain rfl := Option.some.inj ho
              refine ⟨rfl, rfl, fun b W K hS hdf hrest hdep hlate hK => ?_⟩
              clear hdf
              have d2 : v13 h Aa ca e 2 (b.tmps.getD 50 undef) W := hdep ⟨2, .data⟩ (by simp) rfl
              replace d2 : b.tmps.getD 50 undef = .string (B (lowN e.next 8)) := d2
              have x2 := getD_form d2
              have d5 : v13 h Aa ca e 5 (b.tmps.getD 53 undef) W := hdep ⟨5, .data⟩ (by simp) rfl
              replace d5 : b.tmps.getD 53 undef = .string (B (lowN e.fl 8)) := d5
              have x5 := getD_form d5
              refine wp_addop d2 d5 (by simp only [List.length_append, lowN_length, short_len]; omega) ?_
              exact hK _ _ rfl (Old.re _) hS
            rcases i with _ | i
            · obtain rfl := Option.some.inj ho
              refine ⟨rfl, rfl, fun b W K hS hdf hrest hdep hlate hK => ?_⟩
              clear hdf
              have e1 : b.tmps.getD 1 undef = .pointer (some ⟨h, 0, none⟩) := hrest 1 (by decide)
              have ef := getD_form e1
              go_simp
              exact hK _ _ rfl (Old.re _) hS
            rcases i with _ | i
            · obtain rfl := Option.some.inj ho
              refine ⟨rfl, rfl, fun b W K hS hdf hrest hdep hlate hK => ?_⟩
              clear hdf
              have d7 : v13 h Aa ca e 7 (b.tmps.getD 55 undef) W := hdep ⟨7, .data⟩ (by simp) rfl
              replace d7 : b.tmps.getD 55 undef = .pointer (some ⟨h, 0, none⟩) := d7
              have x7 := getD_form d7
              have f1 := hS.1.cell 0
              go_simp
              exact hK _ _ rfl (Old.re _) hS
            rcases i with _ | i
            · obtain rfl := Option.some.inj ho
              refine ⟨rfl, rfl, fun b W K hS hdf hrest hdep hlate hK => ?_⟩
              clear hdf
              have d8 : v13 h Aa ca e 8 (b.tmps.getD 56 undef) W := hdep ⟨8, .data⟩ (by simp) rfl
              replace d8 : b.tmps.getD 56 undef = .slice Aa e.add.length ca := d8
              have x8 := getD_form d8
              go_simp
              exact hK _ _ rfl (Old.re _) hS
            rcases i with _ | i
            · obtain rfl := Option.some.inj ho
              refine ⟨rfl, rfl, fun b W K hS hdf hrest hdep hlate hK => ?_⟩
              clear hdf
              have d9 : v13 h Aa ca e 9 (b.tmps.getD 57 undef) W := hdep ⟨9, .data⟩ (by simp) rfl
              replace d9 : b.tmps.getD 57 undef = .int .i64 ((e.add.length : Int)) := d9
              have x9 := getD_form d9
              go_simp
              exact hK _ _ rfl (Old.re _) hS
            rcases i with _ | i
            · obtain rfl := Option.some.inj ho
              refine ⟨rfl, rfl, fun b W K hS hdf hrest hdep hlate hK => ?_⟩
              clear hdf
              have d10 : v13 h Aa ca e 10 (b.tmps.getD 58 undef) W := hdep ⟨10, .data⟩ (by simp) rfl
              replace d10 : b.tmps.getD 58 undef = .int .u8 ((e.add.length : Int)) := d10
              have x10 := getD_form d10
              go_simp
              rw [len_cells e.add.length (by omega)]
              exact hK _ _ ⟨W.heap.size, rfl, new_bk _ _ _⟩ ((Old.re _).al _) ⟨hS.1.alloc _, hS.2.al _⟩
            rcases i with _ | i
            · obtain rfl := Option.some.inj ho
              refine ⟨rfl, rfl, fun b W K hS hdf hrest hdep hlate hK => ?_⟩
              clear hdf
              have d11 : v13 h Aa ca e 11 (b.tmps.getD 59 undef) W := hdep ⟨11, .data⟩ (by simp) rfl
              obtain ⟨g11, d11, b11⟩ := d11
              have x11 := getD_form d11
              have hcv := conv_row b11 (n := 1) (by simp [lowN_length]) (by omega)
              go_simp
              exact hK _ _ rfl (Old.re _) hS
            rcases i with _ | i
            · obtain rfl := Option.some.inj ho
              refine ⟨rfl, rfl, fun b W K hS hdf hrest hdep hlate hK => ?_⟩
              clear hdf
              have d6 : v13 h Aa ca e 6 (b.tmps.getD 54 undef) W := hdep ⟨6, .data⟩ (by simp) rfl
              replace d6 : b.tmps.getD 54 undef = .string (B (lowN e.next 8 ++ lowN e.fl 8)) := d6
              have x6 := getD_form d6
              have d12 : v13 h Aa ca e 12 (b.tmps.getD 60 undef) W := hdep ⟨12, .data⟩ (by simp) rfl
              replace d12 : b.tmps.getD 60 undef = .string (B (lowN e.add.length 1)) := d12
              have x12 := getD_form d12
              refine wp_addop d6 d12 (by simp only [List.length_append, lowN_length, short_len]; omega) ?_
              exact hK _ _ rfl (Old.re _) hS
            rcases i with _ | i
            · obtain rfl := Option.some.inj ho
              refine ⟨rfl, rfl, fun b W K hS hdf hrest hdep hlate hK => ?_⟩
              clear hdf
              have d13 : v13 h Aa ca e 13 (b.tmps.getD 61 undef) W := hdep ⟨13, .data⟩ (by simp) rfl
              replace d13 : b.tmps.getD 61 undef = .string (B (lowN e.next 8 ++ lowN e.fl 8 ++ lowN e.add.length 1)) := d13
              have x13 := getD_form d13
              have hv : ∀ u, u = Value.string (B (lowN e.next 8 ++ lowN e.fl 8 ++ lowN e.add.length 1)) → v13 h Aa ca e 14 u W := fun u h => h
              go_simp
              exact hK _ _ (hv _ (by simp only [List.append_assoc])) (Old.re _) hS
            simp at ho
          case end13 =>
            intro f W hS hV
            have r6 : f 6 = .string (B (lowN e.next 8 ++ lowN e.fl 8 ++ lowN e.add.length 1)) := hV 14 (by decide)
            clear hV
            simp only [List.map_cons, List.map_nil, putL, r6]
            have HP := Lib.hid (show lowN e.next 8 ++ lowN e.fl 8 ++ lowN e.add.length 1 = lowN e.next 8 ++ lowN e.fl 8 ++ lowN e.add.length 1 from rfl)
            have HPL : (lowN e.next 8 ++ lowN e.fl 8 ++ lowN e.add.length 1).length ≤ 17 := by simp only [List.length_append, lowN_length]; omega
            generalize hP : lowN e.next 8 ++ lowN e.fl 8 ++ lowN e.add.length 1 = P at *
            have HPP := Lib.hid hP
            clear hP HP F1 O1 r6
            have F1 := Lib.hid hS.1
            have O1 := hS.2
            clear hS a0 a1
            have hF : ∀ k, (P ++ (e.add.take k).flatMap fileB).length ≤ 60000 := fun k => by
              have h1 := flat_le (f := fileB) (n := 200) (e.add.take k) (fun x hx => fileB_len (List.all_eq_true.1 M1.out x (List.mem_of_mem_take hx)))
              have h2 : (e.add.take k).length ≤ 255 := by simp; omega
              rw [List.length_append]
              omega
            have HFL := Lib.hid hF
            clear hF
            go_wp2_with fail
            go_loopw [6, 7] (fun pv iv wr => ∃ k : Nat, iv = .int .i64 k ∧ k ≤ e.add.length ∧ pv = .string (B (P ++ (e.add.take k).flatMap fileB)) ∧ Old W wr) (fun _ iv _ => e.add.length - (intOf iv).toNat)
            case atStart => exact ⟨0, rfl, Nat.zero_le _, by simp, Old.re _⟩
            case round =>
              obtain ⟨k, rfl, hk, rfl, o2⟩ := hrel
              have F2 := Lib.hid (F1.out.old o2)
              have O2 := O1.tr o2
              have a0 : wr.cell? ⟨h, 0, none⟩ = some (.slice Aa e.add.length ca) := F2.out.cell 0
              have a1 : wr.cell? ⟨h, 1, none⟩ = some (.slice Ad e.del.length dc) := F2.out.cell 1
              have hpl := HFL.out k
              by_cases hlt3 : k < e.add.length
              · obtain ⟨x, HX⟩ : ∃ x, Hid (e.add[k]? = some x) := ⟨e.add[k], Lib.hid (List.getElem?_eq_getElem hlt3)⟩
                obtain ⟨b, off, rfl, hx⟩ := (HA.out.old O2).at_ HX.out
                obtain ⟨y1, y2, y3, y4, y5, y6, y7⟩ := may_len (List.all_eq_true.1 M1.out x (List.mem_of_getElem? HX.out))
                have HEx := Lib.hid (flat_step (f := fileB) HX.out P)
                clear HX
                obtain ⟨lev, nm, lo, hi, many⟩ := x
                dsimp only at y1 y2 y3 y4 y5 y6 y7
                obtain ⟨lv, hlv⟩ := Int.eq_ofNat_of_zero_le y4
                obtain ⟨mn, hmn⟩ := Int.eq_ofNat_of_zero_le (show 0 ≤ many by omega)
                subst hlv hmn
                obtain ⟨x0, x1, x2, x3, x4⟩ := hx.held
                generalize P ++ (e.add.take k).flatMap fileB = p at *
                go_wp2_with fail
                have O8 := Lib.hid (O2.al (.cells #[.int .i64 (lv : Int), .string (B nm), .string (B lo), .string (B hi), .int .i64 (mn : Int)] 75))
                have o8 := Lib.hid (o2.al (.cells #[.int .i64 (lv : Int), .string (B nm), .string (B lo), .string (B hi), .int .i64 (mn : Int)] 75))
                have F8 := Lib.hid (F2.out.alloc (.cells #[.int .i64 (lv : Int), .string (B nm), .string (B lo), .string (B hi), .int .i64 (mn : Int)] 75))
                have G8 := Lib.hid (new_bk wr 75 #[.int .i64 (lv : Int), .string (B nm), .string (B lo), .string (B hi), .int .i64 (mn : Int)])
                generalize wr.alloc (.cells #[.int .i64 (lv : Int), .string (B nm), .string (B lo), .string (B hi), .int .i64 (mn : Int)] 75) = w8 at *
                generalize wr.heap.size = g at *
                have hv1 : IntKind.u8.wrap (lv : Int) = (lv : Int) := by rw [IntKind.wrap_u8]; omega
                have hv2 : IntKind.u8.wrap ((mn : Int) % 256) = (mn : Int) % 256 := by rw [IntKind.wrap_u8]; omega
                have hv3 : IntKind.u8.wrap ((mn : Int) / 256) = (mn : Int) / 256 := by rw [IntKind.wrap_u8]; omega
                have hv4 : IntKind.i64.wrap ((mn : Int) / 256) = (mn : Int) / 256 := by rw [IntKind.wrap_i64]; omega
                clear x0 x1 x2 x3 x4 hx a0 a1 F2 O2 o2 HFL
                refine wp_region_list (by kernel_rfl) (fun W => Bk W h 41 #[.slice (some ⟨b, off, none⟩) e.add.length ca, .slice Ad e.del.length dc, .int .u64 (e.next : Int), .int .u64 (e.fl : Int)] ∧ Bk W g 75 (icells ⟨(lv : Int), nm, lo, hi, (mn : Int)⟩) ∧ Old w W ∧ Old w8 W) (v18 g p lv mn nm lo hi) [74, 75, 76, 77, 78, 79, 80, 81, 82, 83, 84, 85, 86, 87, 88, 89, 90, 91, 92, 93, 94, 95, 96, 97, 98, 99, 100, 101, 102, 103, 6] rfl (by kernel_rfl) (show ∀ d ∈ ([74, 75, 76, 77, 78, 79, 80, 81, 82, 83, 84, 85, 86, 87, 88, 89, 90, 91, 92, 93, 94, 95, 96, 97, 98, 99, 100, 101, 102, 103, 6] : List Nat), d < 128 by decide) (by decide) (v18_stab g p lv mn nm lo hi) (⟨F8.out, G8.out, O8.out.dr, (Old.re w8).dr⟩) ?op18 ?end18
                case op18 =>
                  intro i o ho
                  rcases i with _ | i
                  · obtain rfl := Option.some.inj ho
                    refine ⟨rfl, rfl, fun b W K hS hdf hrest hdep hlate hK => ?_⟩
                    clear hdf
                    have e6 : b.tmps.getD 6 undef = .string (B (p)) := hlate 30 _ rfl ⟨⟨0, .phase⟩, by simp, rfl, rfl⟩
                    have ef := getD_form e6
                    go_simp
                    exact hK _ _ rfl (Old.re _) hS
                  rcases i with _ | i
                  · obtain rfl := Option.some.inj ho
                    refine ⟨rfl, rfl, fun b W K hS hdf hrest hdep hlate hK => ?_⟩
                    clear hdf
                    have e1 : b.tmps.getD 8 undef = .pointer (some ⟨g, 0, none⟩) := hrest 8 (by decide)
                    have ef := getD_form e1
                    go_simp
                    exact hK _ _ rfl (Old.re _) hS
                  rcases i with _ | i
                  · obtain rfl := Option.some.inj ho
                    refine ⟨rfl, rfl, fun b W K hS hdf hrest hdep hlate hK => ?_⟩
                    clear hdf
                    have d1 : v18 g p lv mn nm lo hi 1 (b.tmps.getD 75 undef) W := hdep ⟨1, .data⟩ (by simp) rfl
                    replace d1 : b.tmps.getD 75 undef = .pointer (some ⟨g, 0, none⟩) := d1
                    have x1 := getD_form d1
                    have f1 := hS.2.1.cell 0
                    go_simp
                    exact hK _ _ rfl (Old.re _) hS
                  rcases i with _ | i
                  · obtain rfl := Option.some.inj ho
                    refine ⟨rfl, rfl, fun b W K hS hdf hrest hdep hlate hK => ?_⟩
                    clear hdf
                    have d2 : v18 g p lv mn nm lo hi 2 (b.tmps.getD 76 undef) W := hdep ⟨2, .data⟩ (by simp) rfl
                    replace d2 : b.tmps.getD 76 undef = .int .i64 ((lv : Int)) := d2
                    have x2 := getD_form d2
                    go_simp
                    exact hK _ _ rfl (Old.re _) hS
                  rcases i with _ | i
                  · obtain rfl := Option.some.inj ho
                    refine ⟨rfl, rfl, fun b W K hS hdf hrest hdep hlate hK => ?_⟩
                    clear hdf
                    have d3 : v18 g p lv mn nm lo hi 3 (b.tmps.getD 77 undef) W := hdep ⟨3, .data⟩ (by simp) rfl
                    replace d3 : b.tmps.getD 77 undef = .int .u8 ((lv : Int)) := d3
                    have x3 := getD_form d3
                    go_simp
                    rw [len_cells lv (by omega)]
                    exact hK _ _ ⟨W.heap.size, rfl, new_bk _ _ _⟩ ((Old.re _).al _) ⟨hS.1.alloc _, hS.2.1.alloc _, hS.2.2.1.al _, hS.2.2.2.al _⟩
                  rcases i with _ | i
                  · obtain rfl := Option.some.inj ho
                    refine ⟨rfl, rfl, fun b W K hS hdf hrest hdep hlate hK => ?_⟩
                    clear hdf
                    have d4 : v18 g p lv mn nm lo hi 4 (b.tmps.getD 78 undef) W := hdep ⟨4, .data⟩ (by simp) rfl
                    obtain ⟨g4, d4, b4⟩ := d4
                    have x4 := getD_form d4
                    have hcv := conv_row b4 (n := 1) (by simp [lowN_length]) (by omega)
                    go_simp
                    exact hK _ _ rfl (Old.re _) hS
                  rcases i with _ | i
                  · obtain rfl := Option.some.inj ho
                    refine ⟨rfl, rfl, fun b W K hS hdf hrest hdep hlate hK => ?_⟩
                    clear hdf
                    have d0 : v18 g p lv mn nm lo hi 0 (b.tmps.getD 74 undef) W := hdep ⟨0, .data⟩ (by simp) rfl
                    replace d0 : b.tmps.getD 74 undef = .string (B (p)) := d0
                    have x0 := getD_form d0
                    have d5 : v18 g p lv mn nm lo hi 5 (b.tmps.getD 79 undef) W := hdep ⟨5, .data⟩ (by simp) rfl
                    replace d5 : b.tmps.getD 79 undef = .string (B (lowN lv 1)) := d5
                    have x5 := getD_form d5
                    refine wp_addop d0 d5 (by simp only [List.length_append, lowN_length, short_len]; omega) ?_
                    exact hK _ _ rfl (Old.re _) hS
                  rcases i with _ | i
                  · obtain rfl := Option.some.inj ho
                    refine ⟨rfl, rfl, fun b W K hS hdf hrest hdep hlate hK => ?_⟩
                    clear hdf
                    have e1 : b.tmps.getD 8 undef = .pointer (some ⟨g, 0, none⟩) := hrest 8 (by decide)
                    have ef := getD_form e1
                    go_simp
                    exact hK _ _ rfl (Old.re _) hS
                  rcases i with _ | i
                  · obtain rfl := Option.some.inj ho
                    refine ⟨rfl, rfl, fun b W K hS hdf hrest hdep hlate hK => ?_⟩
                    clear hdf
                    have d7 : v18 g p lv mn nm lo hi 7 (b.tmps.getD 81 undef) W := hdep ⟨7, .data⟩ (by simp) rfl
                    replace d7 : b.tmps.getD 81 undef = .pointer (some ⟨g, 1, none⟩) := d7
                    have x7 := getD_form d7
                    have f1 := hS.2.1.cell 1
                    go_simp
                    exact hK _ _ rfl (Old.re _) hS
                  rcases i with _ | i
                  · obtain rfl := Option.some.inj ho
                    refine ⟨rfl, rfl, fun b W K hS hdf hrest hdep hlate hK => ?_⟩
                    clear hdf
                    have d8 : v18 g p lv mn nm lo hi 8 (b.tmps.getD 82 undef) W := hdep ⟨8, .data⟩ (by simp) rfl
                    replace d8 : b.tmps.getD 82 undef = .string (B (nm)) := d8
                    have x8 := getD_form d8
                    go_simp
                    refine (short_any nm (by omega) _).mono ?_
                    rintro r W2 ⟨rfl, hO⟩
                    exact hK _ _ rfl hO ⟨hS.1.old hO, hS.2.1.old hO, hS.2.2.1.tr hO, hS.2.2.2.tr hO⟩
                  rcases i with _ | i
                  · obtain rfl := Option.some.inj ho
                    refine ⟨rfl, rfl, fun b W K hS hdf hrest hdep hlate hK => ?_⟩
                    clear hdf
                    have d6 : v18 g p lv mn nm lo hi 6 (b.tmps.getD 80 undef) W := hdep ⟨6, .data⟩ (by simp) rfl
                    replace d6 : b.tmps.getD 80 undef = .string (B (p ++ lowN lv 1)) := d6
                    have x6 := getD_form d6
                    have d9 : v18 g p lv mn nm lo hi 9 (b.tmps.getD 83 undef) W := hdep ⟨9, .data⟩ (by simp) rfl
                    replace d9 : b.tmps.getD 83 undef = .string (B (short nm)) := d9
                    have x9 := getD_form d9
                    refine wp_addop d6 d9 (by simp only [List.length_append, lowN_length, short_len]; omega) ?_
                    exact hK _ _ rfl (Old.re _) hS
                  rcases i with _ | i
                  · obtain rfl := Option.some.inj ho
                    refine ⟨rfl, rfl, fun b W K hS hdf hrest hdep hlate hK => ?_⟩
                    clear hdf
                    have e1 : b.tmps.getD 8 undef = .pointer (some ⟨g, 0, none⟩) := hrest 8 (by decide)
                    have ef := getD_form e1
                    go_simp
                    exact hK _ _ rfl (Old.re _) hS
                  rcases i with _ | i
                  · obtain rfl := Option.some.inj ho
                    refine ⟨rfl, rfl, fun b W K hS hdf hrest hdep hlate hK => ?_⟩
                    clear hdf
                    have d11 : v18 g p lv mn nm lo hi 11 (b.tmps.getD 85 undef) W := hdep ⟨11, .data⟩ (by simp) rfl
                    replace d11 : b.tmps.getD 85 undef = .pointer (some ⟨g, 2, none⟩) := d11
                    have x11 := getD_form d11
                    have f1 := hS.2.1.cell 2
                    go_simp
                    exact hK _ _ rfl (Old.re _) hS
                  rcases i with _ | i
                  · obtain rfl := Option.some.inj ho
                    refine ⟨rfl, rfl, fun b W K hS hdf hrest hdep hlate hK => ?_⟩
                    clear hdf
                    have d12 : v18 g p lv mn nm lo hi 12 (b.tmps.getD 86 undef) W := hdep ⟨12, .data⟩ (by simp) rfl
                    replace d12 : b.tmps.getD 86 undef = .string (B (lo)) := d12
                    have x12 := getD_form d12
                    go_simp
                    refine (short_any lo (by omega) _).mono ?_
                    rintro r W2 ⟨rfl, hO⟩
                    exact hK _ _ rfl hO ⟨hS.1.old hO, hS.2.1.old hO, hS.2.2.1.tr hO, hS.2.2.2.tr hO⟩
                  rcases i with _ | i
                  · obtain rfl := Option.some.inj ho
                    refine ⟨rfl, rfl, fun b W K hS hdf hrest hdep hlate hK => ?_⟩
                    clear hdf
                    have d10 : v18 g p lv mn nm lo hi 10 (b.tmps.getD 84 undef) W := hdep ⟨10, .data⟩ (by simp) rfl
                    replace d10 : b.tmps.getD 84 undef = .string (B (p ++ lowN lv 1 ++ short nm)) := d10
                    have x10 := getD_form d10
                    have d13 : v18 g p lv mn nm lo hi 13 (b.tmps.getD 87 undef) W := hdep ⟨13, .data⟩ (by simp) rfl
                    replace d13 : b.tmps.getD 87 undef = .string (B (short lo)) := d13
                    have x13 := getD_form d13
                    refine wp_addop d10 d13 (by simp only [List.length_append, lowN_length, short_len]; omega) ?_
                    exact hK _ _ rfl (Old.re _) hS
                  rcases i with _ | i
                  · obtain rfl := Option.some.inj ho
                    refine ⟨rfl, rfl, fun b W K hS hdf hrest hdep hlate hK => ?_⟩
                    clear hdf
                    have e1 : b.tmps.getD 8 undef = .pointer (some ⟨g, 0, none⟩) := hrest 8 (by decide)
                    have ef := getD_form e1
                    go_simp
                    exact hK _ _ rfl (Old.re _) hS
                  rcases i with _ | i
                  · obtain rfl := Option.some.inj ho
                    refine ⟨rfl, rfl, fun b W K hS hdf hrest hdep hlate hK => ?_⟩
                    clear hdf
                    have d15 : v18 g p lv mn nm lo hi 15 (b.tmps.getD 89 undef) W := hdep ⟨15, .data⟩ (by simp) rfl
                    replace d15 : b.tmps.getD 89 undef = .pointer (some ⟨g, 3, none⟩) := d15
                    have x15 := getD_form d15
                    have f1 := hS.2.1.cell 3
                    go_simp
                    exact hK _ _ rfl (Old.re _) hS
                  rcases i with _ | i
                  · obtain rfl := Option.some.inj ho
                    refine ⟨rfl, rfl, fun b W K hS hdf hrest hdep hlate hK => ?_⟩
                    clear hdf
                    have d16 : v18 g p lv mn nm lo hi 16 (b.tmps.getD 90 undef) W := hdep ⟨16, .data⟩ (by simp) rfl
                    replace d16 : b.tmps.getD 90 undef = .string (B (hi)) := d16
                    have x16 := getD_form d16
                    go_simp
                    refine (short_any hi (by omega) _).mono ?_
                    rintro r W2 ⟨rfl, hO⟩
                    exact hK _ _ rfl hO ⟨hS.1.old hO, hS.2.1.old hO, hS.2.2.1.tr hO, hS.2.2.2.tr hO⟩
                  rcases i with _ | i
                  · obtain rfl := Option.some.inj ho
                    refine ⟨rfl, rfl, fun b W K hS hdf hrest hdep hlate hK => ?_⟩
                    clear hdf
                    have d14 : v18 g p lv mn nm lo hi 14 (b.tmps.getD 88 undef) W := hdep ⟨14, .data⟩ (by simp) rfl
                    replace d14 : b.tmps.getD 88 undef = .string (B (p ++ lowN lv 1 ++ short nm ++ short lo)) := d14
                    have x14 := getD_form d14
                    have d17 : v18 g p lv mn nm lo hi 17 (b.tmps.getD 91 undef) W := hdep ⟨17, .data⟩ (by simp) rfl
                    replace d17 : b.tmps.getD 91 undef = .string (B (short hi)) := d17
                    have x17 := getD_form d17
                    refine wp_addop d14 d17 (by simp only [List.length_append, lowN_length, short_len]; omega) ?_
                    exact hK _ _ rfl (Old.re _) hS
                  rcases i with _ | i
                  · obtain rfl := Option.some.inj ho
                    refine ⟨rfl, rfl, fun b W K hS hdf hrest hdep hlate hK => ?_⟩
                    clear hdf
                    have e1 : b.tmps.getD 8 undef = .pointer (some ⟨g, 0, none⟩) := hrest 8 (by decide)
                    have ef := getD_form e1
                    go_simp
                    exact hK _ _ rfl (Old.re _) hS
                  rcases i with _ | i
                  · obtain rfl := Option.some.inj ho
                    refine ⟨rfl, rfl, fun b W K hS hdf hrest hdep hlate hK => ?_⟩
                    clear hdf
                    have d19 : v18 g p lv mn nm lo hi 19 (b.tmps.getD 93 undef) W := hdep ⟨19, .data⟩ (by simp) rfl
                    replace d19 : b.tmps.getD 93 undef = .pointer (some ⟨g, 4, none⟩) := d19
                    have x19 := getD_form d19
                    have f1 := hS.2.1.cell 4
                    go_simp
                    exact hK _ _ rfl (Old.re _) hS
                  rcases i with _ | i
                  · obtain rfl := Option.some.inj ho
                    refine ⟨rfl, rfl, fun b W K hS hdf hrest hdep hlate hK => ?_⟩
                    clear hdf
                    have d20 : v18 g p lv mn nm lo hi 20 (b.tmps.getD 94 undef) W := hdep ⟨20, .data⟩ (by simp) rfl
                    replace d20 : b.tmps.getD 94 undef = .int .i64 ((mn : Int)) := d20
                    have x20 := getD_form d20
                    go_simp
                    exact hK _ _ rfl (Old.re _) hS
                  rcases i with _ | i
                  · obtain rfl := Option.some.inj ho
                    refine ⟨rfl, rfl, fun b W K hS hdf hrest hdep hlate hK => ?_⟩
                    clear hdf
                    have d21 : v18 g p lv mn nm lo hi 21 (b.tmps.getD 95 undef) W := hdep ⟨21, .data⟩ (by simp) rfl
                    replace d21 : b.tmps.getD 95 undef = .int .i64 ((mn : Int) % 256) := d21
                    have x21 := getD_form d21
                    go_simp
                    exact hK _ _ rfl (Old.re _) hS
                  rcases i with _ | i
                  · obtain rfl := Option.some.inj ho
                    refine ⟨rfl, rfl, fun b W K hS hdf hrest hdep hlate hK => ?_⟩
                    clear hdf
                    have e1 : b.tmps.getD 8 undef = .pointer (some ⟨g, 0, none⟩) := hrest 8 (by decide)
                    have ef := getD_form e1
                    go_simp
                    exact hK _ _ rfl (Old.re _) hS
                  rcases i with _ | i
                  · obtain rfl := Option.some.inj ho
                    refine ⟨rfl, rfl, fun b W K hS hdf hrest hdep hlate hK => ?_⟩
                    clear hdf
                    have d23 : v18 g p lv mn nm lo hi 23 (b.tmps.getD 97 undef) W := hdep ⟨23, .data⟩ (by simp) rfl
                    replace d23 : b.tmps.getD 97 undef = .pointer (some ⟨g, 4, none⟩) := d23
                    have x23 := getD_form d23
                    have f1 := hS.2.1.cell 4
                    go_simp
                    exact hK _ _ rfl (Old.re _) hS
                  rcases i with _ | i
                  · obtain rfl := Option.some.inj ho
                    refine ⟨rfl, rfl, fun b W K hS hdf hrest hdep hlate hK => ?_⟩
                    clear hdf
                    have d24 : v18 g p lv mn nm lo hi 24 (b.tmps.getD 98 undef) W := hdep ⟨24, .data⟩ (by simp) rfl
                    replace d24 : b.tmps.getD 98 undef = .int .i64 ((mn : Int)) := d24
                    have x24 := getD_form d24
                    go_simp
                    exact hK _ _ rfl (Old.re _) hS
                  rcases i with _ | i
                  · obtain rfl := Option.some.inj ho
                    refine ⟨rfl, rfl, fun b W K hS hdf hrest hdep hlate hK => ?_⟩
                    clear hdf
                    have d25 : v18 g p lv mn nm lo hi 25 (b.tmps.getD 99 undef) W := hdep ⟨25, .data⟩ (by simp) rfl
                    replace d25 : b.tmps.getD 99 undef = .int .i64 ((mn : Int) / 256) := d25
                    have x25 := getD_form d25
                    go_simp
                    exact hK _ _ rfl (Old.re _) hS
                  rcases i with _ | i
                  · obtain rfl := Option.some.inj ho
                    refine ⟨rfl, rfl, fun b W K hS hdf hrest hdep hlate hK => ?_⟩
                    clear hdf
                    have d22 : v18 g p lv mn nm lo hi 22 (b.tmps.getD 96 undef) W := hdep ⟨22, .data⟩ (by simp) rfl
                    replace d22 : b.tmps.getD 96 undef = .int .u8 ((mn : Int) % 256) := d22
                    have x22 := getD_form d22
                    have d26 : v18 g p lv mn nm lo hi 26 (b.tmps.getD 100 undef) W := hdep ⟨26, .data⟩ (by simp) rfl
                    replace d26 : b.tmps.getD 100 undef = .int .u8 ((mn : Int) / 256) := d26
                    have x26 := getD_form d26
                    go_simp
                    rw [two_cells mn (by omega)]
                    exact hK _ _ ⟨W.heap.size, rfl, new_bk _ _ _⟩ ((Old.re _).al _) ⟨hS.1.alloc _, hS.2.1.alloc _, hS.2.2.1.al _, hS.2.2.2.al _⟩
                  rcases i with _ | i
                  · obtain rfl := Option.some.inj ho
                    refine ⟨rfl, rfl, fun b W K hS hdf hrest hdep hlate hK => ?_⟩
                    clear hdf
                    have d27 : v18 g p lv mn nm lo hi 27 (b.tmps.getD 101 undef) W := hdep ⟨27, .data⟩ (by simp) rfl
                    obtain ⟨g27, d27, b27⟩ := d27
                    have x27 := getD_form d27
                    have hcv := conv_row b27 (n := 2) (by simp [lowN_length]) (by omega)
                    go_simp
                    exact hK _ _ rfl (Old.re _) hS
                  rcases i with _ | i
                  · obtain rfl := Option.some.inj ho
                    refine ⟨rfl, rfl, fun b W K hS hdf hrest hdep hlate hK => ?_⟩
                    clear hdf
                    have d18 : v18 g p lv mn nm lo hi 18 (b.tmps.getD 92 undef) W := hdep ⟨18, .data⟩ (by simp) rfl
                    replace d18 : b.tmps.getD 92 undef = .string (B (p ++ lowN lv 1 ++ short nm ++ short lo ++ short hi)) := d18
                    have x18 := getD_form d18
                    have d28 : v18 g p lv mn nm lo hi 28 (b.tmps.getD 102 undef) W := hdep ⟨28, .data⟩ (by simp) rfl
                    replace d28 : b.tmps.getD 102 undef = .string (B (lowN mn 2)) := d28
                    have x28 := getD_form d28
                    refine wp_addop d18 d28 (by simp only [List.length_append, lowN_length, short_len]; omega) ?_
                    exact hK _ _ rfl (Old.re _) hS
                  rcases i with _ | i
                  · obtain rfl := Option.some.inj ho
                    refine ⟨rfl, rfl, fun b W K hS hdf hrest hdep hlate hK => ?_⟩
                    clear hdf
                    have d29 : v18 g p lv mn nm lo hi 29 (b.tmps.getD 103 undef) W := hdep ⟨29, .data⟩ (by simp) rfl
                    replace d29 : b.tmps.getD 103 undef = .string (B (p ++ lowN lv 1 ++ short nm ++ short lo ++ short hi ++ lowN mn 2)) := d29
                    have x29 := getD_form d29
                    have hv : ∀ u, u = Value.string (B (p ++ lowN lv 1 ++ short nm ++ short lo ++ short hi ++ lowN mn 2)) → v18 g p lv mn nm lo hi 30 u W := fun u h => h
                    go_simp
                    exact hK _ _ (hv _ (by simp only [List.append_assoc])) (Old.re _) hS
                  simp at ho
                case end18 =>
                  intro f2 W2 hS hV
                  have r6 : f2 6 = .string (B (p ++ lowN lv 1 ++ short nm ++ short lo ++ short hi ++ lowN mn 2)) := hV 30 (by decide)
                  clear hV
                  have HE2 : Hid (p ++ lowN lv 1 ++ short nm ++ short lo ++ short hi ++ lowN mn 2 = P ++ (e.add.take (k + 1)).flatMap fileB) := Lib.hid (by
                    rw [← HEx.out]
                    simp [fileB, List.append_assoc])
                  rw [HE2.out] at r6
                  have o9 : Old W W2 := o8.out.tr hS.2.2.2
                  clear hS HEx HE2 F8 G8 O8 o8 hv1 hv2 hv3 hv4 hpl
                  simp only [List.map_cons, List.map_nil, putL, r6]
                  go_wp2
                  go_roundw
                  case rel => exact ⟨k + 1, by go_num, by omega, rfl, o9⟩
                  case measure => simp [intOf]; omega
              · obtain rfl : k = e.add.length := by omega
                have HT := Lib.hid (show P ++ (e.add.take e.add.length).flatMap fileB = P ++ e.add.flatMap fileB by rw [List.take_length])
                rw [HT.out] at hpl ⊢
                have HPE := Lib.hid (show encB e = P ++ e.add.flatMap fileB ++ lowN e.del.length 1 ++ e.del.flatMap short by rw [← HPP.out]; rfl)
                generalize P ++ e.add.flatMap fileB = p at *
                have hcv := run_byte wr e.del.length (by omega)
                have O3 := Lib.hid (O2.al (.cells #[.int .u8 (e.del.length : Int)] 5))
                have F3 := Lib.hid (F2.out.alloc (.cells #[.int .u8 (e.del.length : Int)] 5))
                have hl1 : (lowN e.del.length 1).length = 1 := lowN_length _ _
                have HAB := Lib.hid (add_B p (lowN e.del.length 1))
                generalize hq : lowN e.del.length 1 = q at *
                clear hq
                go_wp2_with fail
                rw [HAB.out]
                have hpq : (p ++ q).length ≤ 60001 := by rw [List.length_append]; omega
                clear HAB hcv hpl hl1 HT F2 O2 o2 a0 a1
                generalize p ++ q = P2 at *
                generalize wr.alloc (.cells #[.int .u8 (e.del.length : Int)] 5) = w3 at *
                have hF2 : ∀ k, (P2 ++ (e.del.take k).flatMap short).length ≤ 80000 := fun k => by
                  have h1 := flat_le (f := short) (n := 60) (e.del.take k) (fun x hx => by
                    have := List.all_eq_true.1 M2.out x (List.mem_of_mem_take hx)
                    unfold nameB at this
                    simp only [Bool.and_eq_true, decide_eq_true_iff] at this
                    rw [short_len]; omega)
                  have h2 : (e.del.take k).length ≤ 255 := by simp; omega
                  rw [List.length_append]
                  omega
                have HFL2 := Lib.hid hF2
                clear hF2
                go_loopw [6, 9] (fun pv iv wr => ∃ k : Nat, iv = .int .i64 k ∧ k ≤ e.del.length ∧ pv = .string (B (P2 ++ (e.del.take k).flatMap short)) ∧ Old w3 wr) (fun _ iv _ => e.del.length - (intOf iv).toNat)
                case atStart => exact ⟨0, rfl, Nat.zero_le _, by simp, Old.re _⟩
                case round =>
                  obtain ⟨k, rfl, hk, rfl, o2⟩ := hrel
                  have F2 := Lib.hid (F3.out.old o2)
                  have O2 := O3.out.tr o2
                  have a0 : wr.cell? ⟨h, 0, none⟩ = some (.slice Aa e.add.length ca) := F2.out.cell 0
                  have a1 : wr.cell? ⟨h, 1, none⟩ = some (.slice Ad e.del.length dc) := F2.out.cell 1
                  have hpl := HFL2.out k
                  by_cases hlt4 : k < e.del.length
                  · obtain ⟨x, HX⟩ : ∃ x, Hid (e.del[k]? = some x) := ⟨e.del[k], Lib.hid (List.getElem?_eq_getElem hlt4)⟩
                    obtain ⟨hln, b, off, rfl, hx⟩ := (HD.out.old O2).2 k x HX.out
                    have hxl : x.length ≤ 59 := by
                      have := List.all_eq_true.1 M2.out x (List.mem_of_getElem? HX.out)
                      unfold nameB at this
                      simp only [Bool.and_eq_true, decide_eq_true_iff] at this
                      omega
                    have HEx := Lib.hid (flat_step (f := short) HX.out P2)
                    clear HX
                    have hsl : (short x).length ≤ 60 := by rw [short_len]; omega
                    have CS := Lib.hid (short_any x (by omega) wr)
                    generalize P2 ++ (e.del.take k).flatMap short = p4 at *
                    have HAB := Lib.hid (add_B p4 (short x))
                    go_wp2_with fail
                    refine CS.out.mono ?_
                    rintro r w4 ⟨rfl, o4⟩
                    have HN := Lib.hid (show (Value.string (B p4 ++ B (short x))) = .string (B (P2 ++ (e.del.take (k + 1)).flatMap short)) by rw [HAB.out, HEx.out])
                    have o5 := o2.tr o4
                    clear o4 o2 hx hln CS HAB HEx a0 a1 F2 O2 HFL2 hxl
                    generalize short x = sx at *
                    go_wp2
                    go_roundw
                    case rel => exact ⟨k + 1, by go_num, by omega, HN.out, o5⟩
                    case measure => simp [intOf]; omega
                  · obtain rfl : k = e.del.length := by omega
                    have HE3 := Lib.hid (show P2 ++ (e.del.take e.del.length).flatMap short = encB e by rw [List.take_length, HPE.out])
                    rw [HE3.out]
                    clear hpl HFL2
                    go_wp2
                    go_ret2
                    rw [HR.out]
                    exact ⟨rfl, O2⟩
end Go.Proofs.Yteglddggjkibcaa
