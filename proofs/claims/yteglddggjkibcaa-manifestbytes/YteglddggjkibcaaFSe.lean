/-
  SameEdit of the reference, over edits that are the same. Conditions: lengths as written.
-/
import Derived.Test.YteglddggjkibcaaFShn
namespace Go.Proofs.Yteglddggjkibcaa
open Go.RowKit

set_option maxRecDepth 10000 in
set_option maxHeartbeats 4000000 in
theorem sameEdit_any (w : World) (va vb : Value) (Ad Ae : Option Addr) (dc de : Nat) (e : Ed) (ha : Itms w va e.add) (hb : Itms w vb e.add) (hd : Strs w Ad dc e.del) (hd2 : Strs w Ae de e.del) (l1 : e.add.length ≤ 100000) (l2 : e.del.length ≤ 100000) :
    Calls Try.prog 24 #[.agg #[va, .slice Ad e.del.length dc, .int .u64 (e.next : Int), .int .u64 (e.fl : Int)], .agg #[vb, .slice Ae e.del.length de, .int .u64 (e.next : Int), .int .u64 (e.fl : Int)]] w fun r w' => r = .returned (.bool true) ∧ Old w w' := by
  obtain ⟨Aa, ca, rfl, -⟩ := ha.form
  obtain ⟨Ab, cb, rfl, -⟩ := hb.form
  have HA := Lib.hid ha
  have HB := Lib.hid hb
  have HD := Lib.hid hd
  have HD2 := Lib.hid hd2
  clear ha hb hd hd2
  go_enter Try.func24, Try.ntmps24
  go_wp2_with fail
  have B1 := (new_bk w 41 #[.slice Aa e.add.length ca, .slice Ad e.del.length dc, .int .u64 (e.next : Int), .int .u64 (e.fl : Int)]).alloc (.cells #[.slice Ab e.add.length cb, .slice Ae e.del.length de, .int .u64 (e.next : Int), .int .u64 (e.fl : Int)] 41)
  have B2 := new_bk1 w (.cells #[.slice Aa e.add.length ca, .slice Ad e.del.length dc, .int .u64 (e.next : Int), .int .u64 (e.fl : Int)] 41) 41 #[.slice Ab e.add.length cb, .slice Ae e.del.length de, .int .u64 (e.next : Int), .int .u64 (e.fl : Int)]
  have O1 := ((Old.re w).al (.cells #[.slice Aa e.add.length ca, .slice Ad e.del.length dc, .int .u64 (e.next : Int), .int .u64 (e.fl : Int)] 41)).al (.cells #[.slice Ab e.add.length cb, .slice Ae e.del.length de, .int .u64 (e.next : Int), .int .u64 (e.fl : Int)] 41)
  generalize (w.alloc (.cells #[.slice Aa e.add.length ca, .slice Ad e.del.length dc, .int .u64 (e.next : Int), .int .u64 (e.fl : Int)] 41)).alloc (.cells #[.slice Ab e.add.length cb, .slice Ae e.del.length de, .int .u64 (e.next : Int), .int .u64 (e.fl : Int)] 41) = w1 at *
  generalize w.heap.size = h at *
  have HB1 := Lib.hid B1
  have HB2 := Lib.hid B2
  have HO1 := Lib.hid O1
  clear B1 B2 O1
  go_loopw [5] (fun iv wr => ∃ k : Nat, iv = .int .i64 k ∧ k ≤ e.del.length ∧ Hid (Old w1 wr)) (fun iv _ => e.del.length - (intOf iv).toNat)
  case atStart => exact ⟨0, rfl, Nat.zero_le _, Lib.hid (Old.re _)⟩
  case round =>
    obtain ⟨k, rfl, hk, HO⟩ := hrel
    have a0 : wr.cell? ⟨h, 0, none⟩ = some (.slice Aa e.add.length ca) := (HB1.out.old HO.out).cell 0
    have a1 : wr.cell? ⟨h, 1, none⟩ = some (.slice Ad e.del.length dc) := (HB1.out.old HO.out).cell 1
    have b0 : wr.cell? ⟨h + 1, 0, none⟩ = some (.slice Ab e.add.length cb) := (HB2.out.old HO.out).cell 0
    have b1 : wr.cell? ⟨h + 1, 1, none⟩ = some (.slice Ae e.del.length de) := (HB2.out.old HO.out).cell 1
    by_cases hlt : k < e.del.length
    · obtain ⟨t, HX⟩ : ∃ t, Hid (e.del[k]? = some t) := ⟨e.del[k], Lib.hid (List.getElem?_eq_getElem hlt)⟩
      obtain ⟨hln, b, off, rfl, hx⟩ := (HD.out.old (HO1.out.tr HO.out)).2 k t HX.out
      obtain ⟨-, b', off', rfl, hx'⟩ := (HD2.out.old (HO1.out.tr HO.out)).2 k t HX.out
      clear hln
      have hb1 : (0 : Int) ≤ (k : Int) := by omega
      have hb2 : (k : Int) < (e.del.length : Int) := by omega
      go_upto_region 6 with (fail)
      go_quiet (fail)
      have HO2 := Lib.hid (HO.out.dn nq)
      go_wp2
      go_roundw
      case rel => exact ⟨k + 1, by go_num, by omega, HO2⟩
      case measure => simp [intOf]; omega
    · obtain rfl : k = e.del.length := by omega
      have C := Lib.hid (sameFiles_any wr _ _ e.add (HA.out.old (HO1.out.tr HO.out)) (HB.out.old (HO1.out.tr HO.out)) l1)
      go_wp2_with fail
      refine C.out.mono ?_
      rintro r w2 ⟨rfl, o2⟩
      go_wp2
      go_ret
      exact ⟨rfl, HO1.out.tr (HO.out.tr o2)⟩
end Go.Proofs.Yteglddggjkibcaa
