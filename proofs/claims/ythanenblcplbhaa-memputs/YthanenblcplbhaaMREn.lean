/-
  The reference's Encode: what it answers, in whatever order its last statement is worked out. Conditions: the numbers are of 64 bits.
-/
import Derived.Test.YthanenblcplbhaaMInv
import Derived.Test.YthanenblcplbhaaMRef
namespace Go.Proofs.Ythanenblcplbhaa
open Go.RowKit
theorem add_B (a b : List UInt8) : B a ++ B b = B (a ++ b) := by
  apply ByteArray.ext
  simp [B]
set_option linter.unusedSimpArgs false

/-- The byte of Del. -/
def delI (c : Cel) : Int := if c.del then 1 else 0
theorem flag_cells (c : Cel) (n : Nat) (h : n < 256) : (#[.int .u8 (delI c), .int .u8 (n : Int)] : Array Value) = (bs (flag1 c.del ++ [UInt8.ofNat n])).toArray := by
  have e : (UInt8.ofNat n).toNat = n := by simp; omega
  cases hd : c.del <;> simp [bs, flag1, delI, hd] <;> omega
theorem len_cells (n : Nat) (h : n < 256) : (#[.int .u8 (n : Int)] : Array Value) = (bs [UInt8.ofNat n]).toArray := by
  simp [bs]; omega
theorem getD_form {b : Act} {t : Nat} {v : Value} (h : b.tmps.getD t undef = v) : b.tmps[t]?.getD undef = v := by
  rw [← Array.getD_eq_getD_getElem?]; exact h
/-- An operation that puts one text behind another. -/
theorem wp_addop {b : Act} {W : World} {K : Act → World → Prop} {Q : Exit → Act → World → Prop} {d x y : Nat} {ty : TypeId} {pos : String} {aft : Array Edge} {p q : List UInt8}
    (hx : b.tmps.getD x undef = .string (B p)) (hy : b.tmps.getD y undef = .string (B q)) (hl : p.length + q.length ≤ 100000) (h : K (b.put (some d) (.string (B (p ++ q)))) W) :
    Oper.wp Try.prog ⟨some d, .binOp .add 9 (.tmp x) (.tmp y) 9, ty, pos, aft, none⟩ b W K Q := by
  have hn : ¬ (9223372036854775807 < p.length + q.length) := by omega
  have hx2 := getD_form hx
  have hy2 := getD_form hy
  rw [← add_B] at h
  go_simp
  exact h

/-- What each operation of the last statement yields. -/
def encV (w : World) (c : Cel) (i : Nat) (v : Value) (W : World) : Prop := match i with
  | 0 => v = .pointer (some ⟨w.heap.size, 0, none⟩)
  | 1 => v = .string (B (c.row))
  | 2 => v = .int .i64 c.row.length
  | 3 => v = .int .u8 c.row.length
  | 4 => ∃ h, v = .slice (some ⟨h, 0, none⟩) 1 1 ∧ Bk W h 5 (bs ([UInt8.ofNat c.row.length])).toArray
  | 5 => v = .string (B ([UInt8.ofNat c.row.length]))
  | 6 => v = .pointer (some ⟨w.heap.size, 0, none⟩)
  | 7 => v = .string (B (c.row))
  | 8 => v = .string (B (text1 c.row))
  | 9 => v = .pointer (some ⟨w.heap.size, 1, none⟩)
  | 10 => v = .string (B (c.col))
  | 11 => v = .int .i64 c.col.length
  | 12 => v = .int .u8 c.col.length
  | 13 => ∃ h, v = .slice (some ⟨h, 0, none⟩) 1 1 ∧ Bk W h 5 (bs ([UInt8.ofNat c.col.length])).toArray
  | 14 => v = .string (B ([UInt8.ofNat c.col.length]))
  | 15 => v = .string (B (text1 c.row ++ [UInt8.ofNat c.col.length]))
  | 16 => v = .pointer (some ⟨w.heap.size, 1, none⟩)
  | 17 => v = .string (B (c.col))
  | 18 => v = .string (B (text1 c.row ++ text1 c.col))
  | 19 => v = .pointer (some ⟨w.heap.size, 2, none⟩)
  | 20 => v = .int .u64 c.ts
  | 21 => v = .string (B (low8 c.ts))
  | 22 => v = .string (B (text1 c.row ++ text1 c.col ++ low8 c.ts))
  | 23 => v = .pointer (some ⟨w.heap.size, 3, none⟩)
  | 24 => v = .int .u64 c.seq
  | 25 => v = .string (B (low8 c.seq))
  | 26 => v = .string (B (text1 c.row ++ text1 c.col ++ low8 c.ts ++ low8 c.seq))
  | 27 => v = .int .u8 (delI c)
  | 28 => v = .pointer (some ⟨w.heap.size, 5, none⟩)
  | 29 => v = .string (B (c.val))
  | 30 => v = .int .i64 c.val.length
  | 31 => v = .int .u8 c.val.length
  | 32 => ∃ h, v = .slice (some ⟨h, 0, none⟩) 2 2 ∧ Bk W h 5 (bs (flag1 c.del ++ [UInt8.ofNat c.val.length])).toArray
  | 33 => v = .string (B (flag1 c.del ++ [UInt8.ofNat c.val.length]))
  | 34 => v = .string (B (text1 c.row ++ text1 c.col ++ low8 c.ts ++ low8 c.seq ++ (flag1 c.del ++ [UInt8.ofNat c.val.length])))
  | 35 => v = .pointer (some ⟨w.heap.size, 5, none⟩)
  | 36 => v = .string (B (c.val))
  | 37 => v = .string (B (enc c))
  | 38 => v = .string (B (enc c))
  | 39 => v = .int .i64 0
  | _ => False
/-- Where each operation of the last statement puts it. -/
def encD (i : Nat) : Nat := if i = 38 then 2 else if i = 39 then 3 else i + 10
theorem encV_stab (w : World) (c : Cel) (i : Nat) (u : Value) (W W' : World) (hO : Old W W') (h : encV w c i u W) : encV w c i u W' := by
  revert h
  unfold encV
  split <;> first
    | exact id
    | (rintro ⟨g, e, hb⟩; exact ⟨g, e, hb.old hO⟩)
/-- The box of the cell is as it was. -/
def encS (w : World) (c : Cel) (W : World) : Prop := Bk W w.heap.size 31 (cells c) ∧ Old w W
theorem encS.old {w W W' : World} {c : Cel} (h : encS w c W) (k : Old W W') : encS w c W' := ⟨h.1.old k, h.2.tr k⟩

theorem encD_1 : ∀ i, i < 40 → encD i ≠ 1 := fun i _ => by unfold encD; split <;> (try split) <;> omega
theorem encD_4 : ∀ i, i < 40 → encD i ≠ 4 := fun i _ => by unfold encD; split <;> (try split) <;> omega

set_option maxRecDepth 100000 in
set_option maxHeartbeats 16000000 in
theorem rencode_yes (c : Cel) (w : World) (hm : mayB c = true) (hok : c.ok) :
    Calls Try.prog 33 #[cv c] w fun e w' => e = .returned (.tuple #[.string (B (enc c)), .int .i64 0]) ∧ Old w w' := by
  obtain ⟨q1, q2, q3, q4, q5⟩ := mayB_parts hm
  obtain ⟨ht, hs⟩ := hok
  have hw1 : IntKind.u8.wrap (c.row.length : Int) = (c.row.length : Int) := by rw [IntKind.wrap_u8]; omega
  have hw2 : IntKind.u8.wrap (c.col.length : Int) = (c.col.length : Int) := by rw [IntKind.wrap_u8]; omega
  have hw3 : IntKind.u8.wrap (c.val.length : Int) = (c.val.length : Int) := by rw [IntKind.wrap_u8]; omega
  go_enter Try.func33, Try.ntmps33
  go_wp2_with fail
  have f0 : encS w c (w.alloc (.cells (cells c) 31)) := ⟨new_bk _ _ _, (Old.re _).al _⟩
  refine (rmay_any c _).mono ?_
  rintro r w1 ⟨rfl, h1⟩
  rw [hm]
  have f1 := f0.old h1
  clear f0 h1
  obtain ⟨z0, z1, z2, z3, z4, z5⟩ := f1.1.six
  cases hd : c.del
  · rw [hd] at z4
    have hdel : (Value.int .u8 0) = .int .u8 (delI c) := by simp [delI, hd]
    go_wp2_with fail
    clear z0 z1 z2 z3 z4 z5 hd
    refine wp_region_runs (by kernel_rfl) (encS w c) (encV w c) encD 40 rfl (by kernel_rfl) ?a0 ?b0 (encV_stab w c) (f1.old (Old.re _).dr) ?c0 ?d0
    case a0 => (intro i hi; simp only [List.size_toArray, List.length_cons, List.length_nil]; unfold encD; split <;> (try split) <;> omega)
    case b0 => (intro i j hi hj h; unfold encD at h; split at h <;> split at h <;> (try split at h) <;> (try split at h) <;> omega)
    case d0 =>
      intro b W hS hdf hsz hrest hall
      have r2 : b.tmps.getD 2 undef = .string (B (enc c)) := hall 38 (by omega)
      have r3 : b.tmps.getD 3 undef = .int .i64 0 := hall 39 (by omega)
      obtain ⟨bt, bd⟩ := b
      simp only at hdf r2 r3
      subst hdf
      go_wp2
      refine bodyPost_ret (results_tmp2 (t := 2) (u := 3) rfl _ _ _) rfl ?_
      refine ⟨?_, hS.2⟩
      rw [r2, r3]
    intro i o ho
    rcases i with _ | i
    · obtain rfl := Option.some.inj ho
      refine ⟨rfl, rfl, fun b W K hS hdf hrest hdep hK => ?_⟩
      clear hdf
      have e1 : b.tmps.getD 1 undef = .pointer (some ⟨w.heap.size, 0, none⟩) := hrest 1 encD_1
      go_simp
      exact hK _ _ rfl (Old.re _) hS
    rcases i with _ | i
    · obtain rfl := Option.some.inj ho
      refine ⟨rfl, rfl, fun b W K hS hdf hrest hdep hK => ?_⟩
      clear hdf
      have d0 : encV w c 0 (b.tmps.getD 10 undef) W := hdep ⟨0, .data⟩ (by simp) rfl
      replace d0 : b.tmps.getD 10 undef = .pointer (some ⟨w.heap.size, 0, none⟩) := d0
      have x0 := getD_form d0
      obtain ⟨f0, f1, f2, f3, f4, f5⟩ := hS.1.six
      go_simp
      exact hK _ _ rfl (Old.re _) hS
    rcases i with _ | i
    · obtain rfl := Option.some.inj ho
      refine ⟨rfl, rfl, fun b W K hS hdf hrest hdep hK => ?_⟩
      clear hdf
      have d1 : encV w c 1 (b.tmps.getD 11 undef) W := hdep ⟨1, .data⟩ (by simp) rfl
      replace d1 : b.tmps.getD 11 undef = .string (B (c.row)) := d1
      have x1 := getD_form d1
      go_simp
      exact hK _ _ rfl (Old.re _) hS
    rcases i with _ | i
    · obtain rfl := Option.some.inj ho
      refine ⟨rfl, rfl, fun b W K hS hdf hrest hdep hK => ?_⟩
      clear hdf
      have d2 : encV w c 2 (b.tmps.getD 12 undef) W := hdep ⟨2, .data⟩ (by simp) rfl
      replace d2 : b.tmps.getD 12 undef = .int .i64 c.row.length := d2
      have x2 := getD_form d2
      go_simp
      exact hK _ _ rfl (Old.re _) hS
    rcases i with _ | i
    · obtain rfl := Option.some.inj ho
      refine ⟨rfl, rfl, fun b W K hS hdf hrest hdep hK => ?_⟩
      clear hdf
      have d3 : encV w c 3 (b.tmps.getD 13 undef) W := hdep ⟨3, .data⟩ (by simp) rfl
      replace d3 : b.tmps.getD 13 undef = .int .u8 c.row.length := d3
      have x3 := getD_form d3
      go_simp
      rw [len_cells c.row.length (by omega)]
      exact hK _ _ ⟨W.heap.size, rfl, new_bk _ _ _⟩ ((Old.re _).al _) (hS.old ((Old.re _).al _))
    rcases i with _ | i
    · obtain rfl := Option.some.inj ho
      refine ⟨rfl, rfl, fun b W K hS hdf hrest hdep hK => ?_⟩
      clear hdf
      have d4 : encV w c 4 (b.tmps.getD 14 undef) W := hdep ⟨4, .data⟩ (by simp) rfl
      obtain ⟨g4, d4, b4⟩ := d4
      have x4 := getD_form d4
      have hcv : (convert 56 9 (.slice (some ⟨g4, 0, none⟩) 1 1)).run Try.prog W = .ok (.string (B ([UInt8.ofNat c.row.length]))) W := by
        have ho := Own.blk (base := 0) (Nat.zero_le _) b4 (by simp [flag1_len])
        skip
        exact run_str ho
      go_simp
      exact hK _ _ rfl (Old.re _) hS
    rcases i with _ | i
    · obtain rfl := Option.some.inj ho
      refine ⟨rfl, rfl, fun b W K hS hdf hrest hdep hK => ?_⟩
      clear hdf
      have e1 : b.tmps.getD 1 undef = .pointer (some ⟨w.heap.size, 0, none⟩) := hrest 1 encD_1
      go_simp
      exact hK _ _ rfl (Old.re _) hS
    rcases i with _ | i
    · obtain rfl := Option.some.inj ho
      refine ⟨rfl, rfl, fun b W K hS hdf hrest hdep hK => ?_⟩
      clear hdf
      have d6 : encV w c 6 (b.tmps.getD 16 undef) W := hdep ⟨6, .data⟩ (by simp) rfl
      replace d6 : b.tmps.getD 16 undef = .pointer (some ⟨w.heap.size, 0, none⟩) := d6
      have x6 := getD_form d6
      obtain ⟨f0, f1, f2, f3, f4, f5⟩ := hS.1.six
      go_simp
      exact hK _ _ rfl (Old.re _) hS
    rcases i with _ | i
    · obtain rfl := Option.some.inj ho
      refine ⟨rfl, rfl, fun b W K hS hdf hrest hdep hK => ?_⟩
      clear hdf
      have d5 : encV w c 5 (b.tmps.getD 15 undef) W := hdep ⟨5, .data⟩ (by simp) rfl
      replace d5 : b.tmps.getD 15 undef = .string (B ([UInt8.ofNat c.row.length])) := d5
      have x5 := getD_form d5
      have d7 : encV w c 7 (b.tmps.getD 17 undef) W := hdep ⟨7, .data⟩ (by simp) rfl
      replace d7 : b.tmps.getD 17 undef = .string (B (c.row)) := d7
      have x7 := getD_form d7
      refine wp_addop d5 d7 (by simp [text1, low8, flag1_len]; omega) ?_
      exact hK _ _ (by rfl) (Old.re _) hS
    rcases i with _ | i
    · obtain rfl := Option.some.inj ho
      refine ⟨rfl, rfl, fun b W K hS hdf hrest hdep hK => ?_⟩
      clear hdf
      have e1 : b.tmps.getD 1 undef = .pointer (some ⟨w.heap.size, 0, none⟩) := hrest 1 encD_1
      go_simp
      exact hK _ _ rfl (Old.re _) hS
    rcases i with _ | i
    · obtain rfl := Option.some.inj ho
      refine ⟨rfl, rfl, fun b W K hS hdf hrest hdep hK => ?_⟩
      clear hdf
      have d9 : encV w c 9 (b.tmps.getD 19 undef) W := hdep ⟨9, .data⟩ (by simp) rfl
      replace d9 : b.tmps.getD 19 undef = .pointer (some ⟨w.heap.size, 1, none⟩) := d9
      have x9 := getD_form d9
      obtain ⟨f0, f1, f2, f3, f4, f5⟩ := hS.1.six
      go_simp
      exact hK _ _ rfl (Old.re _) hS
    rcases i with _ | i
    · obtain rfl := Option.some.inj ho
      refine ⟨rfl, rfl, fun b W K hS hdf hrest hdep hK => ?_⟩
      clear hdf
      have d10 : encV w c 10 (b.tmps.getD 20 undef) W := hdep ⟨10, .data⟩ (by simp) rfl
      replace d10 : b.tmps.getD 20 undef = .string (B (c.col)) := d10
      have x10 := getD_form d10
      go_simp
      exact hK _ _ rfl (Old.re _) hS
    rcases i with _ | i
    · obtain rfl := Option.some.inj ho
      refine ⟨rfl, rfl, fun b W K hS hdf hrest hdep hK => ?_⟩
      clear hdf
      have d11 : encV w c 11 (b.tmps.getD 21 undef) W := hdep ⟨11, .data⟩ (by simp) rfl
      replace d11 : b.tmps.getD 21 undef = .int .i64 c.col.length := d11
      have x11 := getD_form d11
      go_simp
      exact hK _ _ rfl (Old.re _) hS
    rcases i with _ | i
    · obtain rfl := Option.some.inj ho
      refine ⟨rfl, rfl, fun b W K hS hdf hrest hdep hK => ?_⟩
      clear hdf
      have d12 : encV w c 12 (b.tmps.getD 22 undef) W := hdep ⟨12, .data⟩ (by simp) rfl
      replace d12 : b.tmps.getD 22 undef = .int .u8 c.col.length := d12
      have x12 := getD_form d12
      go_simp
      rw [len_cells c.col.length (by omega)]
      exact hK _ _ ⟨W.heap.size, rfl, new_bk _ _ _⟩ ((Old.re _).al _) (hS.old ((Old.re _).al _))
    rcases i with _ | i
    · obtain rfl := Option.some.inj ho
      refine ⟨rfl, rfl, fun b W K hS hdf hrest hdep hK => ?_⟩
      clear hdf
      have d13 : encV w c 13 (b.tmps.getD 23 undef) W := hdep ⟨13, .data⟩ (by simp) rfl
      obtain ⟨g13, d13, b13⟩ := d13
      have x13 := getD_form d13
      have hcv : (convert 56 9 (.slice (some ⟨g13, 0, none⟩) 1 1)).run Try.prog W = .ok (.string (B ([UInt8.ofNat c.col.length]))) W := by
        have ho := Own.blk (base := 0) (Nat.zero_le _) b13 (by simp [flag1_len])
        skip
        exact run_str ho
      go_simp
      exact hK _ _ rfl (Old.re _) hS
    rcases i with _ | i
    · obtain rfl := Option.some.inj ho
      refine ⟨rfl, rfl, fun b W K hS hdf hrest hdep hK => ?_⟩
      clear hdf
      have d8 : encV w c 8 (b.tmps.getD 18 undef) W := hdep ⟨8, .data⟩ (by simp) rfl
      replace d8 : b.tmps.getD 18 undef = .string (B (text1 c.row)) := d8
      have x8 := getD_form d8
      have d14 : encV w c 14 (b.tmps.getD 24 undef) W := hdep ⟨14, .data⟩ (by simp) rfl
      replace d14 : b.tmps.getD 24 undef = .string (B ([UInt8.ofNat c.col.length])) := d14
      have x14 := getD_form d14
      refine wp_addop d8 d14 (by simp [text1, low8, flag1_len]; omega) ?_
      exact hK _ _ (by rfl) (Old.re _) hS
    rcases i with _ | i
    · obtain rfl := Option.some.inj ho
      refine ⟨rfl, rfl, fun b W K hS hdf hrest hdep hK => ?_⟩
      clear hdf
      have e1 : b.tmps.getD 1 undef = .pointer (some ⟨w.heap.size, 0, none⟩) := hrest 1 encD_1
      go_simp
      exact hK _ _ rfl (Old.re _) hS
    rcases i with _ | i
    · obtain rfl := Option.some.inj ho
      refine ⟨rfl, rfl, fun b W K hS hdf hrest hdep hK => ?_⟩
      clear hdf
      have d16 : encV w c 16 (b.tmps.getD 26 undef) W := hdep ⟨16, .data⟩ (by simp) rfl
      replace d16 : b.tmps.getD 26 undef = .pointer (some ⟨w.heap.size, 1, none⟩) := d16
      have x16 := getD_form d16
      obtain ⟨f0, f1, f2, f3, f4, f5⟩ := hS.1.six
      go_simp
      exact hK _ _ rfl (Old.re _) hS
    rcases i with _ | i
    · obtain rfl := Option.some.inj ho
      refine ⟨rfl, rfl, fun b W K hS hdf hrest hdep hK => ?_⟩
      clear hdf
      have d15 : encV w c 15 (b.tmps.getD 25 undef) W := hdep ⟨15, .data⟩ (by simp) rfl
      replace d15 : b.tmps.getD 25 undef = .string (B (text1 c.row ++ [UInt8.ofNat c.col.length])) := d15
      have x15 := getD_form d15
      have d17 : encV w c 17 (b.tmps.getD 27 undef) W := hdep ⟨17, .data⟩ (by simp) rfl
      replace d17 : b.tmps.getD 27 undef = .string (B (c.col)) := d17
      have x17 := getD_form d17
      refine wp_addop d15 d17 (by simp [text1, low8, flag1_len]; omega) ?_
      exact hK _ _ (by simp [encV, enc, text1]) (Old.re _) hS
    rcases i with _ | i
    · obtain rfl := Option.some.inj ho
      refine ⟨rfl, rfl, fun b W K hS hdf hrest hdep hK => ?_⟩
      clear hdf
      have e1 : b.tmps.getD 1 undef = .pointer (some ⟨w.heap.size, 0, none⟩) := hrest 1 encD_1
      go_simp
      exact hK _ _ rfl (Old.re _) hS
    rcases i with _ | i
    · obtain rfl := Option.some.inj ho
      refine ⟨rfl, rfl, fun b W K hS hdf hrest hdep hK => ?_⟩
      clear hdf
      have d19 : encV w c 19 (b.tmps.getD 29 undef) W := hdep ⟨19, .data⟩ (by simp) rfl
      replace d19 : b.tmps.getD 29 undef = .pointer (some ⟨w.heap.size, 2, none⟩) := d19
      have x19 := getD_form d19
      obtain ⟨f0, f1, f2, f3, f4, f5⟩ := hS.1.six
      go_simp
      exact hK _ _ rfl (Old.re _) hS
    rcases i with _ | i
    · obtain rfl := Option.some.inj ho
      refine ⟨rfl, rfl, fun b W K hS hdf hrest hdep hK => ?_⟩
      clear hdf
      have d20 : encV w c 20 (b.tmps.getD 30 undef) W := hdep ⟨20, .data⟩ (by simp) rfl
      replace d20 : b.tmps.getD 30 undef = .int .u64 c.ts := d20
      have x20 := getD_form d20
      go_simp
      refine (rnumber_any c.ts false _ ht).mono ?_
      rintro r W2 ⟨rfl, hO⟩
      exact hK _ _ rfl hO (hS.old hO)
    rcases i with _ | i
    · obtain rfl := Option.some.inj ho
      refine ⟨rfl, rfl, fun b W K hS hdf hrest hdep hK => ?_⟩
      clear hdf
      have d18 : encV w c 18 (b.tmps.getD 28 undef) W := hdep ⟨18, .data⟩ (by simp) rfl
      replace d18 : b.tmps.getD 28 undef = .string (B (text1 c.row ++ text1 c.col)) := d18
      have x18 := getD_form d18
      have d21 : encV w c 21 (b.tmps.getD 31 undef) W := hdep ⟨21, .data⟩ (by simp) rfl
      replace d21 : b.tmps.getD 31 undef = .string (B (low8 c.ts)) := d21
      have x21 := getD_form d21
      refine wp_addop d18 d21 (by simp [text1, low8, flag1_len]; omega) ?_
      exact hK _ _ (by rfl) (Old.re _) hS
    rcases i with _ | i
    · obtain rfl := Option.some.inj ho
      refine ⟨rfl, rfl, fun b W K hS hdf hrest hdep hK => ?_⟩
      clear hdf
      have e1 : b.tmps.getD 1 undef = .pointer (some ⟨w.heap.size, 0, none⟩) := hrest 1 encD_1
      go_simp
      exact hK _ _ rfl (Old.re _) hS
    rcases i with _ | i
    · obtain rfl := Option.some.inj ho
      refine ⟨rfl, rfl, fun b W K hS hdf hrest hdep hK => ?_⟩
      clear hdf
      have d23 : encV w c 23 (b.tmps.getD 33 undef) W := hdep ⟨23, .data⟩ (by simp) rfl
      replace d23 : b.tmps.getD 33 undef = .pointer (some ⟨w.heap.size, 3, none⟩) := d23
      have x23 := getD_form d23
      obtain ⟨f0, f1, f2, f3, f4, f5⟩ := hS.1.six
      go_simp
      exact hK _ _ rfl (Old.re _) hS
    rcases i with _ | i
    · obtain rfl := Option.some.inj ho
      refine ⟨rfl, rfl, fun b W K hS hdf hrest hdep hK => ?_⟩
      clear hdf
      have d24 : encV w c 24 (b.tmps.getD 34 undef) W := hdep ⟨24, .data⟩ (by simp) rfl
      replace d24 : b.tmps.getD 34 undef = .int .u64 c.seq := d24
      have x24 := getD_form d24
      go_simp
      refine (rnumber_any c.seq false _ hs).mono ?_
      rintro r W2 ⟨rfl, hO⟩
      exact hK _ _ rfl hO (hS.old hO)
    rcases i with _ | i
    · obtain rfl := Option.some.inj ho
      refine ⟨rfl, rfl, fun b W K hS hdf hrest hdep hK => ?_⟩
      clear hdf
      have d22 : encV w c 22 (b.tmps.getD 32 undef) W := hdep ⟨22, .data⟩ (by simp) rfl
      replace d22 : b.tmps.getD 32 undef = .string (B (text1 c.row ++ text1 c.col ++ low8 c.ts)) := d22
      have x22 := getD_form d22
      have d25 : encV w c 25 (b.tmps.getD 35 undef) W := hdep ⟨25, .data⟩ (by simp) rfl
      replace d25 : b.tmps.getD 35 undef = .string (B (low8 c.seq)) := d25
      have x25 := getD_form d25
      refine wp_addop d22 d25 (by simp [text1, low8, flag1_len]; omega) ?_
      exact hK _ _ (by rfl) (Old.re _) hS
    rcases i with _ | i
    · obtain rfl := Option.some.inj ho
      refine ⟨rfl, rfl, fun b W K hS hdf hrest hdep hK => ?_⟩
      clear hdf
      have e4 : b.tmps.getD 4 undef = .int .u8 (delI c) := (hrest 4 encD_4).trans hdel
      have x4 := getD_form e4
      go_simp
      exact hK _ _ rfl (Old.re _) hS
    rcases i with _ | i
    · obtain rfl := Option.some.inj ho
      refine ⟨rfl, rfl, fun b W K hS hdf hrest hdep hK => ?_⟩
      clear hdf
      have e1 : b.tmps.getD 1 undef = .pointer (some ⟨w.heap.size, 0, none⟩) := hrest 1 encD_1
      go_simp
      exact hK _ _ rfl (Old.re _) hS
    rcases i with _ | i
    · obtain rfl := Option.some.inj ho
      refine ⟨rfl, rfl, fun b W K hS hdf hrest hdep hK => ?_⟩
      clear hdf
      have d28 : encV w c 28 (b.tmps.getD 38 undef) W := hdep ⟨28, .data⟩ (by simp) rfl
      replace d28 : b.tmps.getD 38 undef = .pointer (some ⟨w.heap.size, 5, none⟩) := d28
      have x28 := getD_form d28
      obtain ⟨f0, f1, f2, f3, f4, f5⟩ := hS.1.six
      go_simp
      exact hK _ _ rfl (Old.re _) hS
    rcases i with _ | i
    · obtain rfl := Option.some.inj ho
      refine ⟨rfl, rfl, fun b W K hS hdf hrest hdep hK => ?_⟩
      clear hdf
      have d29 : encV w c 29 (b.tmps.getD 39 undef) W := hdep ⟨29, .data⟩ (by simp) rfl
      replace d29 : b.tmps.getD 39 undef = .string (B (c.val)) := d29
      have x29 := getD_form d29
      go_simp
      exact hK _ _ rfl (Old.re _) hS
    rcases i with _ | i
    · obtain rfl := Option.some.inj ho
      refine ⟨rfl, rfl, fun b W K hS hdf hrest hdep hK => ?_⟩
      clear hdf
      have d30 : encV w c 30 (b.tmps.getD 40 undef) W := hdep ⟨30, .data⟩ (by simp) rfl
      replace d30 : b.tmps.getD 40 undef = .int .i64 c.val.length := d30
      have x30 := getD_form d30
      go_simp
      exact hK _ _ rfl (Old.re _) hS
    rcases i with _ | i
    · obtain rfl := Option.some.inj ho
      refine ⟨rfl, rfl, fun b W K hS hdf hrest hdep hK => ?_⟩
      clear hdf
      have d27 : encV w c 27 (b.tmps.getD 37 undef) W := hdep ⟨27, .data⟩ (by simp) rfl
      replace d27 : b.tmps.getD 37 undef = .int .u8 (delI c) := d27
      have x27 := getD_form d27
      have d31 : encV w c 31 (b.tmps.getD 41 undef) W := hdep ⟨31, .data⟩ (by simp) rfl
      replace d31 : b.tmps.getD 41 undef = .int .u8 c.val.length := d31
      have x31 := getD_form d31
      go_simp
      rw [flag_cells c c.val.length (by omega)]
      exact hK _ _ ⟨W.heap.size, rfl, new_bk _ _ _⟩ ((Old.re _).al _) (hS.old ((Old.re _).al _))
    rcases i with _ | i
    · obtain rfl := Option.some.inj ho
      refine ⟨rfl, rfl, fun b W K hS hdf hrest hdep hK => ?_⟩
      clear hdf
      have d32 : encV w c 32 (b.tmps.getD 42 undef) W := hdep ⟨32, .data⟩ (by simp) rfl
      obtain ⟨g32, d32, b32⟩ := d32
      have x32 := getD_form d32
      have hcv : (convert 56 9 (.slice (some ⟨g32, 0, none⟩) 2 2)).run Try.prog W = .ok (.string (B (flag1 c.del ++ [UInt8.ofNat c.val.length]))) W := by
        have ho := Own.blk (base := 0) (Nat.zero_le _) b32 (by simp [flag1_len])
        rw [show (flag1 c.del ++ [UInt8.ofNat c.val.length]).length = 2 by simp [flag1_len]] at ho
        exact run_str ho
      go_simp
      exact hK _ _ rfl (Old.re _) hS
    rcases i with _ | i
    · obtain rfl := Option.some.inj ho
      refine ⟨rfl, rfl, fun b W K hS hdf hrest hdep hK => ?_⟩
      clear hdf
      have d26 : encV w c 26 (b.tmps.getD 36 undef) W := hdep ⟨26, .data⟩ (by simp) rfl
      replace d26 : b.tmps.getD 36 undef = .string (B (text1 c.row ++ text1 c.col ++ low8 c.ts ++ low8 c.seq)) := d26
      have x26 := getD_form d26
      have d33 : encV w c 33 (b.tmps.getD 43 undef) W := hdep ⟨33, .data⟩ (by simp) rfl
      replace d33 : b.tmps.getD 43 undef = .string (B (flag1 c.del ++ [UInt8.ofNat c.val.length])) := d33
      have x33 := getD_form d33
      refine wp_addop d26 d33 (by simp [text1, low8, flag1_len]; omega) ?_
      exact hK _ _ (by rfl) (Old.re _) hS
    rcases i with _ | i
    · obtain rfl := Option.some.inj ho
      refine ⟨rfl, rfl, fun b W K hS hdf hrest hdep hK => ?_⟩
      clear hdf
      have e1 : b.tmps.getD 1 undef = .pointer (some ⟨w.heap.size, 0, none⟩) := hrest 1 encD_1
      go_simp
      exact hK _ _ rfl (Old.re _) hS
    rcases i with _ | i
    · obtain rfl := Option.some.inj ho
      refine ⟨rfl, rfl, fun b W K hS hdf hrest hdep hK => ?_⟩
      clear hdf
      have d35 : encV w c 35 (b.tmps.getD 45 undef) W := hdep ⟨35, .data⟩ (by simp) rfl
      replace d35 : b.tmps.getD 45 undef = .pointer (some ⟨w.heap.size, 5, none⟩) := d35
      have x35 := getD_form d35
      obtain ⟨f0, f1, f2, f3, f4, f5⟩ := hS.1.six
      go_simp
      exact hK _ _ rfl (Old.re _) hS
    rcases i with _ | i
    · obtain rfl := Option.some.inj ho
      refine ⟨rfl, rfl, fun b W K hS hdf hrest hdep hK => ?_⟩
      clear hdf
      have d34 : encV w c 34 (b.tmps.getD 44 undef) W := hdep ⟨34, .data⟩ (by simp) rfl
      replace d34 : b.tmps.getD 44 undef = .string (B (text1 c.row ++ text1 c.col ++ low8 c.ts ++ low8 c.seq ++ (flag1 c.del ++ [UInt8.ofNat c.val.length]))) := d34
      have x34 := getD_form d34
      have d36 : encV w c 36 (b.tmps.getD 46 undef) W := hdep ⟨36, .data⟩ (by simp) rfl
      replace d36 : b.tmps.getD 46 undef = .string (B (c.val)) := d36
      have x36 := getD_form d36
      refine wp_addop d34 d36 (by simp [text1, low8, flag1_len]; omega) ?_
      exact hK _ _ (by simp [encV, enc, text1]) (Old.re _) hS
    rcases i with _ | i
    · obtain rfl := Option.some.inj ho
      refine ⟨rfl, rfl, fun b W K hS hdf hrest hdep hK => ?_⟩
      clear hdf
      have d37 : encV w c 37 (b.tmps.getD 47 undef) W := hdep ⟨37, .data⟩ (by simp) rfl
      replace d37 : b.tmps.getD 47 undef = .string (B (enc c)) := d37
      have x37 := getD_form d37
      go_simp
      exact hK _ _ rfl (Old.re _) hS
    rcases i with _ | i
    · obtain rfl := Option.some.inj ho
      refine ⟨rfl, rfl, fun b W K hS hdf hrest hdep hK => ?_⟩
      clear hdf
      go_simp
      exact hK _ _ rfl (Old.re _) hS
    simp at ho
  · rw [hd] at z4
    have hdel : (Value.int .u8 1) = .int .u8 (delI c) := by simp [delI, hd]
    go_wp2_with fail
    clear z0 z1 z2 z3 z4 z5 hd
    refine wp_region_runs (by kernel_rfl) (encS w c) (encV w c) encD 40 rfl (by kernel_rfl) ?a1 ?b1 (encV_stab w c) (f1.old (Old.re _).dr) ?c1 ?d1
    case a1 => (intro i hi; simp only [List.size_toArray, List.length_cons, List.length_nil]; unfold encD; split <;> (try split) <;> omega)
    case b1 => (intro i j hi hj h; unfold encD at h; split at h <;> split at h <;> (try split at h) <;> (try split at h) <;> omega)
    case d1 =>
      intro b W hS hdf hsz hrest hall
      have r2 : b.tmps.getD 2 undef = .string (B (enc c)) := hall 38 (by omega)
      have r3 : b.tmps.getD 3 undef = .int .i64 0 := hall 39 (by omega)
      obtain ⟨bt, bd⟩ := b
      simp only at hdf r2 r3
      subst hdf
      go_wp2
      refine bodyPost_ret (results_tmp2 (t := 2) (u := 3) rfl _ _ _) rfl ?_
      refine ⟨?_, hS.2⟩
      rw [r2, r3]
    intro i o ho
    rcases i with _ | i
    · obtain rfl := Option.some.inj ho
      refine ⟨rfl, rfl, fun b W K hS hdf hrest hdep hK => ?_⟩
      clear hdf
      have e1 : b.tmps.getD 1 undef = .pointer (some ⟨w.heap.size, 0, none⟩) := hrest 1 encD_1
      go_simp
      exact hK _ _ rfl (Old.re _) hS
    rcases i with _ | i
    · obtain rfl := Option.some.inj ho
      refine ⟨rfl, rfl, fun b W K hS hdf hrest hdep hK => ?_⟩
      clear hdf
      have d0 : encV w c 0 (b.tmps.getD 10 undef) W := hdep ⟨0, .data⟩ (by simp) rfl
      replace d0 : b.tmps.getD 10 undef = .pointer (some ⟨w.heap.size, 0, none⟩) := d0
      have x0 := getD_form d0
      obtain ⟨f0, f1, f2, f3, f4, f5⟩ := hS.1.six
      go_simp
      exact hK _ _ rfl (Old.re _) hS
    rcases i with _ | i
    · obtain rfl := Option.some.inj ho
      refine ⟨rfl, rfl, fun b W K hS hdf hrest hdep hK => ?_⟩
      clear hdf
      have d1 : encV w c 1 (b.tmps.getD 11 undef) W := hdep ⟨1, .data⟩ (by simp) rfl
      replace d1 : b.tmps.getD 11 undef = .string (B (c.row)) := d1
      have x1 := getD_form d1
      go_simp
      exact hK _ _ rfl (Old.re _) hS
    rcases i with _ | i
    · obtain rfl := Option.some.inj ho
      refine ⟨rfl, rfl, fun b W K hS hdf hrest hdep hK => ?_⟩
      clear hdf
      have d2 : encV w c 2 (b.tmps.getD 12 undef) W := hdep ⟨2, .data⟩ (by simp) rfl
      replace d2 : b.tmps.getD 12 undef = .int .i64 c.row.length := d2
      have x2 := getD_form d2
      go_simp
      exact hK _ _ rfl (Old.re _) hS
    rcases i with _ | i
    · obtain rfl := Option.some.inj ho
      refine ⟨rfl, rfl, fun b W K hS hdf hrest hdep hK => ?_⟩
      clear hdf
      have d3 : encV w c 3 (b.tmps.getD 13 undef) W := hdep ⟨3, .data⟩ (by simp) rfl
      replace d3 : b.tmps.getD 13 undef = .int .u8 c.row.length := d3
      have x3 := getD_form d3
      go_simp
      rw [len_cells c.row.length (by omega)]
      exact hK _ _ ⟨W.heap.size, rfl, new_bk _ _ _⟩ ((Old.re _).al _) (hS.old ((Old.re _).al _))
    rcases i with _ | i
    · obtain rfl := Option.some.inj ho
      refine ⟨rfl, rfl, fun b W K hS hdf hrest hdep hK => ?_⟩
      clear hdf
      have d4 : encV w c 4 (b.tmps.getD 14 undef) W := hdep ⟨4, .data⟩ (by simp) rfl
      obtain ⟨g4, d4, b4⟩ := d4
      have x4 := getD_form d4
      have hcv : (convert 56 9 (.slice (some ⟨g4, 0, none⟩) 1 1)).run Try.prog W = .ok (.string (B ([UInt8.ofNat c.row.length]))) W := by
        have ho := Own.blk (base := 0) (Nat.zero_le _) b4 (by simp [flag1_len])
        skip
        exact run_str ho
      go_simp
      exact hK _ _ rfl (Old.re _) hS
    rcases i with _ | i
    · obtain rfl := Option.some.inj ho
      refine ⟨rfl, rfl, fun b W K hS hdf hrest hdep hK => ?_⟩
      clear hdf
      have e1 : b.tmps.getD 1 undef = .pointer (some ⟨w.heap.size, 0, none⟩) := hrest 1 encD_1
      go_simp
      exact hK _ _ rfl (Old.re _) hS
    rcases i with _ | i
    · obtain rfl := Option.some.inj ho
      refine ⟨rfl, rfl, fun b W K hS hdf hrest hdep hK => ?_⟩
      clear hdf
      have d6 : encV w c 6 (b.tmps.getD 16 undef) W := hdep ⟨6, .data⟩ (by simp) rfl
      replace d6 : b.tmps.getD 16 undef = .pointer (some ⟨w.heap.size, 0, none⟩) := d6
      have x6 := getD_form d6
      obtain ⟨f0, f1, f2, f3, f4, f5⟩ := hS.1.six
      go_simp
      exact hK _ _ rfl (Old.re _) hS
    rcases i with _ | i
    · obtain rfl := Option.some.inj ho
      refine ⟨rfl, rfl, fun b W K hS hdf hrest hdep hK => ?_⟩
      clear hdf
      have d5 : encV w c 5 (b.tmps.getD 15 undef) W := hdep ⟨5, .data⟩ (by simp) rfl
      replace d5 : b.tmps.getD 15 undef = .string (B ([UInt8.ofNat c.row.length])) := d5
      have x5 := getD_form d5
      have d7 : encV w c 7 (b.tmps.getD 17 undef) W := hdep ⟨7, .data⟩ (by simp) rfl
      replace d7 : b.tmps.getD 17 undef = .string (B (c.row)) := d7
      have x7 := getD_form d7
      refine wp_addop d5 d7 (by simp [text1, low8, flag1_len]; omega) ?_
      exact hK _ _ (by rfl) (Old.re _) hS
    rcases i with _ | i
    · obtain rfl := Option.some.inj ho
      refine ⟨rfl, rfl, fun b W K hS hdf hrest hdep hK => ?_⟩
      clear hdf
      have e1 : b.tmps.getD 1 undef = .pointer (some ⟨w.heap.size, 0, none⟩) := hrest 1 encD_1
      go_simp
      exact hK _ _ rfl (Old.re _) hS
    rcases i with _ | i
    · obtain rfl := Option.some.inj ho
      refine ⟨rfl, rfl, fun b W K hS hdf hrest hdep hK => ?_⟩
      clear hdf
      have d9 : encV w c 9 (b.tmps.getD 19 undef) W := hdep ⟨9, .data⟩ (by simp) rfl
      replace d9 : b.tmps.getD 19 undef = .pointer (some ⟨w.heap.size, 1, none⟩) := d9
      have x9 := getD_form d9
      obtain ⟨f0, f1, f2, f3, f4, f5⟩ := hS.1.six
      go_simp
      exact hK _ _ rfl (Old.re _) hS
    rcases i with _ | i
    · obtain rfl := Option.some.inj ho
      refine ⟨rfl, rfl, fun b W K hS hdf hrest hdep hK => ?_⟩
      clear hdf
      have d10 : encV w c 10 (b.tmps.getD 20 undef) W := hdep ⟨10, .data⟩ (by simp) rfl
      replace d10 : b.tmps.getD 20 undef = .string (B (c.col)) := d10
      have x10 := getD_form d10
      go_simp
      exact hK _ _ rfl (Old.re _) hS
    rcases i with _ | i
    · obtain rfl := Option.some.inj ho
      refine ⟨rfl, rfl, fun b W K hS hdf hrest hdep hK => ?_⟩
      clear hdf
      have d11 : encV w c 11 (b.tmps.getD 21 undef) W := hdep ⟨11, .data⟩ (by simp) rfl
      replace d11 : b.tmps.getD 21 undef = .int .i64 c.col.length := d11
      have x11 := getD_form d11
      go_simp
      exact hK _ _ rfl (Old.re _) hS
    rcases i with _ | i
    · obtain rfl := Option.some.inj ho
      refine ⟨rfl, rfl, fun b W K hS hdf hrest hdep hK => ?_⟩
      clear hdf
      have d12 : encV w c 12 (b.tmps.getD 22 undef) W := hdep ⟨12, .data⟩ (by simp) rfl
      replace d12 : b.tmps.getD 22 undef = .int .u8 c.col.length := d12
      have x12 := getD_form d12
      go_simp
      rw [len_cells c.col.length (by omega)]
      exact hK _ _ ⟨W.heap.size, rfl, new_bk _ _ _⟩ ((Old.re _).al _) (hS.old ((Old.re _).al _))
    rcases i with _ | i
    · obtain rfl := Option.some.inj ho
      refine ⟨rfl, rfl, fun b W K hS hdf hrest hdep hK => ?_⟩
      clear hdf
      have d13 : encV w c 13 (b.tmps.getD 23 undef) W := hdep ⟨13, .data⟩ (by simp) rfl
      obtain ⟨g13, d13, b13⟩ := d13
      have x13 := getD_form d13
      have hcv : (convert 56 9 (.slice (some ⟨g13, 0, none⟩) 1 1)).run Try.prog W = .ok (.string (B ([UInt8.ofNat c.col.length]))) W := by
        have ho := Own.blk (base := 0) (Nat.zero_le _) b13 (by simp [flag1_len])
        skip
        exact run_str ho
      go_simp
      exact hK _ _ rfl (Old.re _) hS
    rcases i with _ | i
    · obtain rfl := Option.some.inj ho
      refine ⟨rfl, rfl, fun b W K hS hdf hrest hdep hK => ?_⟩
      clear hdf
      have d8 : encV w c 8 (b.tmps.getD 18 undef) W := hdep ⟨8, .data⟩ (by simp) rfl
      replace d8 : b.tmps.getD 18 undef = .string (B (text1 c.row)) := d8
      have x8 := getD_form d8
      have d14 : encV w c 14 (b.tmps.getD 24 undef) W := hdep ⟨14, .data⟩ (by simp) rfl
      replace d14 : b.tmps.getD 24 undef = .string (B ([UInt8.ofNat c.col.length])) := d14
      have x14 := getD_form d14
      refine wp_addop d8 d14 (by simp [text1, low8, flag1_len]; omega) ?_
      exact hK _ _ (by rfl) (Old.re _) hS
    rcases i with _ | i
    · obtain rfl := Option.some.inj ho
      refine ⟨rfl, rfl, fun b W K hS hdf hrest hdep hK => ?_⟩
      clear hdf
      have e1 : b.tmps.getD 1 undef = .pointer (some ⟨w.heap.size, 0, none⟩) := hrest 1 encD_1
      go_simp
      exact hK _ _ rfl (Old.re _) hS
    rcases i with _ | i
    · obtain rfl := Option.some.inj ho
      refine ⟨rfl, rfl, fun b W K hS hdf hrest hdep hK => ?_⟩
      clear hdf
      have d16 : encV w c 16 (b.tmps.getD 26 undef) W := hdep ⟨16, .data⟩ (by simp) rfl
      replace d16 : b.tmps.getD 26 undef = .pointer (some ⟨w.heap.size, 1, none⟩) := d16
      have x16 := getD_form d16
      obtain ⟨f0, f1, f2, f3, f4, f5⟩ := hS.1.six
      go_simp
      exact hK _ _ rfl (Old.re _) hS
    rcases i with _ | i
    · obtain rfl := Option.some.inj ho
      refine ⟨rfl, rfl, fun b W K hS hdf hrest hdep hK => ?_⟩
      clear hdf
      have d15 : encV w c 15 (b.tmps.getD 25 undef) W := hdep ⟨15, .data⟩ (by simp) rfl
      replace d15 : b.tmps.getD 25 undef = .string (B (text1 c.row ++ [UInt8.ofNat c.col.length])) := d15
      have x15 := getD_form d15
      have d17 : encV w c 17 (b.tmps.getD 27 undef) W := hdep ⟨17, .data⟩ (by simp) rfl
      replace d17 : b.tmps.getD 27 undef = .string (B (c.col)) := d17
      have x17 := getD_form d17
      refine wp_addop d15 d17 (by simp [text1, low8, flag1_len]; omega) ?_
      exact hK _ _ (by simp [encV, enc, text1]) (Old.re _) hS
    rcases i with _ | i
    · obtain rfl := Option.some.inj ho
      refine ⟨rfl, rfl, fun b W K hS hdf hrest hdep hK => ?_⟩
      clear hdf
      have e1 : b.tmps.getD 1 undef = .pointer (some ⟨w.heap.size, 0, none⟩) := hrest 1 encD_1
      go_simp
      exact hK _ _ rfl (Old.re _) hS
    rcases i with _ | i
    · obtain rfl := Option.some.inj ho
      refine ⟨rfl, rfl, fun b W K hS hdf hrest hdep hK => ?_⟩
      clear hdf
      have d19 : encV w c 19 (b.tmps.getD 29 undef) W := hdep ⟨19, .data⟩ (by simp) rfl
      replace d19 : b.tmps.getD 29 undef = .pointer (some ⟨w.heap.size, 2, none⟩) := d19
      have x19 := getD_form d19
      obtain ⟨f0, f1, f2, f3, f4, f5⟩ := hS.1.six
      go_simp
      exact hK _ _ rfl (Old.re _) hS
    rcases i with _ | i
    · obtain rfl := Option.some.inj ho
      refine ⟨rfl, rfl, fun b W K hS hdf hrest hdep hK => ?_⟩
      clear hdf
      have d20 : encV w c 20 (b.tmps.getD 30 undef) W := hdep ⟨20, .data⟩ (by simp) rfl
      replace d20 : b.tmps.getD 30 undef = .int .u64 c.ts := d20
      have x20 := getD_form d20
      go_simp
      refine (rnumber_any c.ts false _ ht).mono ?_
      rintro r W2 ⟨rfl, hO⟩
      exact hK _ _ rfl hO (hS.old hO)
    rcases i with _ | i
    · obtain rfl := Option.some.inj ho
      refine ⟨rfl, rfl, fun b W K hS hdf hrest hdep hK => ?_⟩
      clear hdf
      have d18 : encV w c 18 (b.tmps.getD 28 undef) W := hdep ⟨18, .data⟩ (by simp) rfl
      replace d18 : b.tmps.getD 28 undef = .string (B (text1 c.row ++ text1 c.col)) := d18
      have x18 := getD_form d18
      have d21 : encV w c 21 (b.tmps.getD 31 undef) W := hdep ⟨21, .data⟩ (by simp) rfl
      replace d21 : b.tmps.getD 31 undef = .string (B (low8 c.ts)) := d21
      have x21 := getD_form d21
      refine wp_addop d18 d21 (by simp [text1, low8, flag1_len]; omega) ?_
      exact hK _ _ (by rfl) (Old.re _) hS
    rcases i with _ | i
    · obtain rfl := Option.some.inj ho
      refine ⟨rfl, rfl, fun b W K hS hdf hrest hdep hK => ?_⟩
      clear hdf
      have e1 : b.tmps.getD 1 undef = .pointer (some ⟨w.heap.size, 0, none⟩) := hrest 1 encD_1
      go_simp
      exact hK _ _ rfl (Old.re _) hS
    rcases i with _ | i
    · obtain rfl := Option.some.inj ho
      refine ⟨rfl, rfl, fun b W K hS hdf hrest hdep hK => ?_⟩
      clear hdf
      have d23 : encV w c 23 (b.tmps.getD 33 undef) W := hdep ⟨23, .data⟩ (by simp) rfl
      replace d23 : b.tmps.getD 33 undef = .pointer (some ⟨w.heap.size, 3, none⟩) := d23
      have x23 := getD_form d23
      obtain ⟨f0, f1, f2, f3, f4, f5⟩ := hS.1.six
      go_simp
      exact hK _ _ rfl (Old.re _) hS
    rcases i with _ | i
    · obtain rfl := Option.some.inj ho
      refine ⟨rfl, rfl, fun b W K hS hdf hrest hdep hK => ?_⟩
      clear hdf
      have d24 : encV w c 24 (b.tmps.getD 34 undef) W := hdep ⟨24, .data⟩ (by simp) rfl
      replace d24 : b.tmps.getD 34 undef = .int .u64 c.seq := d24
      have x24 := getD_form d24
      go_simp
      refine (rnumber_any c.seq false _ hs).mono ?_
      rintro r W2 ⟨rfl, hO⟩
      exact hK _ _ rfl hO (hS.old hO)
    rcases i with _ | i
    · obtain rfl := Option.some.inj ho
      refine ⟨rfl, rfl, fun b W K hS hdf hrest hdep hK => ?_⟩
      clear hdf
      have d22 : encV w c 22 (b.tmps.getD 32 undef) W := hdep ⟨22, .data⟩ (by simp) rfl
      replace d22 : b.tmps.getD 32 undef = .string (B (text1 c.row ++ text1 c.col ++ low8 c.ts)) := d22
      have x22 := getD_form d22
      have d25 : encV w c 25 (b.tmps.getD 35 undef) W := hdep ⟨25, .data⟩ (by simp) rfl
      replace d25 : b.tmps.getD 35 undef = .string (B (low8 c.seq)) := d25
      have x25 := getD_form d25
      refine wp_addop d22 d25 (by simp [text1, low8, flag1_len]; omega) ?_
      exact hK _ _ (by rfl) (Old.re _) hS
    rcases i with _ | i
    · obtain rfl := Option.some.inj ho
      refine ⟨rfl, rfl, fun b W K hS hdf hrest hdep hK => ?_⟩
      clear hdf
      have e4 : b.tmps.getD 4 undef = .int .u8 (delI c) := (hrest 4 encD_4).trans hdel
      have x4 := getD_form e4
      go_simp
      exact hK _ _ rfl (Old.re _) hS
    rcases i with _ | i
    · obtain rfl := Option.some.inj ho
      refine ⟨rfl, rfl, fun b W K hS hdf hrest hdep hK => ?_⟩
      clear hdf
      have e1 : b.tmps.getD 1 undef = .pointer (some ⟨w.heap.size, 0, none⟩) := hrest 1 encD_1
      go_simp
      exact hK _ _ rfl (Old.re _) hS
    rcases i with _ | i
    · obtain rfl := Option.some.inj ho
      refine ⟨rfl, rfl, fun b W K hS hdf hrest hdep hK => ?_⟩
      clear hdf
      have d28 : encV w c 28 (b.tmps.getD 38 undef) W := hdep ⟨28, .data⟩ (by simp) rfl
      replace d28 : b.tmps.getD 38 undef = .pointer (some ⟨w.heap.size, 5, none⟩) := d28
      have x28 := getD_form d28
      obtain ⟨f0, f1, f2, f3, f4, f5⟩ := hS.1.six
      go_simp
      exact hK _ _ rfl (Old.re _) hS
    rcases i with _ | i
    · obtain rfl := Option.some.inj ho
      refine ⟨rfl, rfl, fun b W K hS hdf hrest hdep hK => ?_⟩
      clear hdf
      have d29 : encV w c 29 (b.tmps.getD 39 undef) W := hdep ⟨29, .data⟩ (by simp) rfl
      replace d29 : b.tmps.getD 39 undef = .string (B (c.val)) := d29
      have x29 := getD_form d29
      go_simp
      exact hK _ _ rfl (Old.re _) hS
    rcases i with _ | i
    · obtain rfl := Option.some.inj ho
      refine ⟨rfl, rfl, fun b W K hS hdf hrest hdep hK => ?_⟩
      clear hdf
      have d30 : encV w c 30 (b.tmps.getD 40 undef) W := hdep ⟨30, .data⟩ (by simp) rfl
      replace d30 : b.tmps.getD 40 undef = .int .i64 c.val.length := d30
      have x30 := getD_form d30
      go_simp
      exact hK _ _ rfl (Old.re _) hS
    rcases i with _ | i
    · obtain rfl := Option.some.inj ho
      refine ⟨rfl, rfl, fun b W K hS hdf hrest hdep hK => ?_⟩
      clear hdf
      have d27 : encV w c 27 (b.tmps.getD 37 undef) W := hdep ⟨27, .data⟩ (by simp) rfl
      replace d27 : b.tmps.getD 37 undef = .int .u8 (delI c) := d27
      have x27 := getD_form d27
      have d31 : encV w c 31 (b.tmps.getD 41 undef) W := hdep ⟨31, .data⟩ (by simp) rfl
      replace d31 : b.tmps.getD 41 undef = .int .u8 c.val.length := d31
      have x31 := getD_form d31
      go_simp
      rw [flag_cells c c.val.length (by omega)]
      exact hK _ _ ⟨W.heap.size, rfl, new_bk _ _ _⟩ ((Old.re _).al _) (hS.old ((Old.re _).al _))
    rcases i with _ | i
    · obtain rfl := Option.some.inj ho
      refine ⟨rfl, rfl, fun b W K hS hdf hrest hdep hK => ?_⟩
      clear hdf
      have d32 : encV w c 32 (b.tmps.getD 42 undef) W := hdep ⟨32, .data⟩ (by simp) rfl
      obtain ⟨g32, d32, b32⟩ := d32
      have x32 := getD_form d32
      have hcv : (convert 56 9 (.slice (some ⟨g32, 0, none⟩) 2 2)).run Try.prog W = .ok (.string (B (flag1 c.del ++ [UInt8.ofNat c.val.length]))) W := by
        have ho := Own.blk (base := 0) (Nat.zero_le _) b32 (by simp [flag1_len])
        rw [show (flag1 c.del ++ [UInt8.ofNat c.val.length]).length = 2 by simp [flag1_len]] at ho
        exact run_str ho
      go_simp
      exact hK _ _ rfl (Old.re _) hS
    rcases i with _ | i
    · obtain rfl := Option.some.inj ho
      refine ⟨rfl, rfl, fun b W K hS hdf hrest hdep hK => ?_⟩
      clear hdf
      have d26 : encV w c 26 (b.tmps.getD 36 undef) W := hdep ⟨26, .data⟩ (by simp) rfl
      replace d26 : b.tmps.getD 36 undef = .string (B (text1 c.row ++ text1 c.col ++ low8 c.ts ++ low8 c.seq)) := d26
      have x26 := getD_form d26
      have d33 : encV w c 33 (b.tmps.getD 43 undef) W := hdep ⟨33, .data⟩ (by simp) rfl
      replace d33 : b.tmps.getD 43 undef = .string (B (flag1 c.del ++ [UInt8.ofNat c.val.length])) := d33
      have x33 := getD_form d33
      refine wp_addop d26 d33 (by simp [text1, low8, flag1_len]; omega) ?_
      exact hK _ _ (by rfl) (Old.re _) hS
    rcases i with _ | i
    · obtain rfl := Option.some.inj ho
      refine ⟨rfl, rfl, fun b W K hS hdf hrest hdep hK => ?_⟩
      clear hdf
      have e1 : b.tmps.getD 1 undef = .pointer (some ⟨w.heap.size, 0, none⟩) := hrest 1 encD_1
      go_simp
      exact hK _ _ rfl (Old.re _) hS
    rcases i with _ | i
    · obtain rfl := Option.some.inj ho
      refine ⟨rfl, rfl, fun b W K hS hdf hrest hdep hK => ?_⟩
      clear hdf
      have d35 : encV w c 35 (b.tmps.getD 45 undef) W := hdep ⟨35, .data⟩ (by simp) rfl
      replace d35 : b.tmps.getD 45 undef = .pointer (some ⟨w.heap.size, 5, none⟩) := d35
      have x35 := getD_form d35
      obtain ⟨f0, f1, f2, f3, f4, f5⟩ := hS.1.six
      go_simp
      exact hK _ _ rfl (Old.re _) hS
    rcases i with _ | i
    · obtain rfl := Option.some.inj ho
      refine ⟨rfl, rfl, fun b W K hS hdf hrest hdep hK => ?_⟩
      clear hdf
      have d34 : encV w c 34 (b.tmps.getD 44 undef) W := hdep ⟨34, .data⟩ (by simp) rfl
      replace d34 : b.tmps.getD 44 undef = .string (B (text1 c.row ++ text1 c.col ++ low8 c.ts ++ low8 c.seq ++ (flag1 c.del ++ [UInt8.ofNat c.val.length]))) := d34
      have x34 := getD_form d34
      have d36 : encV w c 36 (b.tmps.getD 46 undef) W := hdep ⟨36, .data⟩ (by simp) rfl
      replace d36 : b.tmps.getD 46 undef = .string (B (c.val)) := d36
      have x36 := getD_form d36
      refine wp_addop d34 d36 (by simp [text1, low8, flag1_len]; omega) ?_
      exact hK _ _ (by simp [encV, enc, text1]) (Old.re _) hS
    rcases i with _ | i
    · obtain rfl := Option.some.inj ho
      refine ⟨rfl, rfl, fun b W K hS hdf hrest hdep hK => ?_⟩
      clear hdf
      have d37 : encV w c 37 (b.tmps.getD 47 undef) W := hdep ⟨37, .data⟩ (by simp) rfl
      replace d37 : b.tmps.getD 47 undef = .string (B (enc c)) := d37
      have x37 := getD_form d37
      go_simp
      exact hK _ _ rfl (Old.re _) hS
    rcases i with _ | i
    · obtain rfl := Option.some.inj ho
      refine ⟨rfl, rfl, fun b W K hS hdf hrest hdep hK => ?_⟩
      clear hdf
      go_simp
      exact hK _ _ rfl (Old.re _) hS
    simp at ho

set_option maxHeartbeats 1000000 in
theorem rencode_no (c : Cel) (w : World) (h : mayB c = false) :
    Calls Try.prog 33 #[cv c] w fun e w' => e = .returned (.tuple #[.string (B []), .int .i64 1]) ∧ Old w w' := by
  go_enter Try.func33, Try.ntmps33
  go_wp2_with (go_at_call 26; refine (rmay_any c _).mono ?_; rintro e w1 ⟨rfl, hb⟩)
  go_ret2
  exact ⟨rfl, ((Old.re _).al _).tr hb⟩
end Go.Proofs.Ythanenblcplbhaa
