/-
  SameFiles of the reference; files and edit of the law; the law's bounds. Conditions: lengths as written.
-/
import Derived.Test.YteglddggjkibcaaFOvr
namespace Go.Proofs.Yteglddggjkibcaa
open Go.RowKit

theorem neqFile (a : Itm) (w : World) : (binOp .neq 75 (iv a) (iv a)).run Try.prog w = .ok (.bool false) w := by
  go_simp
theorem eqlFile (a : Itm) (w : World) : (binOp .eql 60 (iv a) (iv a)).run Try.prog w = .ok (.bool true) w := by
  go_simp
set_option maxRecDepth 10000 in
set_option maxHeartbeats 2000000 in
theorem sameFiles_any (w : World) (v u : Value) (l : List Itm) (h : Itms w v l) (h' : Itms w u l) (hl : l.length ≤ 100000) :
    Calls Try.prog 14 #[v, u] w fun e w' => e = .returned (.bool true) ∧ Old w w' := by
  obtain ⟨A, cap, rfl, hc⟩ := h.form
  obtain ⟨A', cap', rfl, hc'⟩ := h'.form
  have HI := Lib.hid h
  have HI' := Lib.hid h'
  clear h h'
  go_enter Try.func14, Try.ntmps14
  go_wp2_with fail
  go_loopw [5] (fun iv wr => ∃ k : Nat, iv = .int .i64 k ∧ k ≤ l.length ∧ Old w wr) (fun iv _ => l.length - (intOf iv).toNat)
  case atStart => exact ⟨0, rfl, Nat.zero_le _, Old.re _⟩
  case round =>
    obtain ⟨k, rfl, hk, o1⟩ := hrel
    by_cases hlt : k < l.length
    · obtain ⟨x, HX⟩ : ∃ x, Hid (l[k]? = some x) := ⟨l[k], Lib.hid (List.getElem?_eq_getElem hlt)⟩
      have HE := Lib.hid fun W => neqFile x W
      obtain ⟨b, off, rfl, hx⟩ := (HI.out.old o1).at_ HX.out
      obtain ⟨b', off', rfl, hy⟩ := (HI'.out.old o1).at_ HX.out
      obtain ⟨x0, x1, x2, x3, x4⟩ := hx.held
      obtain ⟨y0, y1, y2, y3, y4⟩ := hy.held
      have hb1 : (0 : Int) ≤ (k : Int) := by omega
      have hb2 : (k : Int) < (l.length : Int) := by omega
      go_upto_region 6 with (fail)
      have he := HE.out
      go_quiet (fail)
      clear x0 x1 x2 x3 x4 y0 y1 y2 y3 y4 hx hy he
      go_wp2
      go_round
      case rel => exact ⟨k + 1, by go_num, by omega, o1.dn _⟩
      case measure => simp [intOf]; omega
    · obtain rfl : k = l.length := by omega
      go_wp2
      go_ret
      exact ⟨rfl, o1⟩
set_option maxHeartbeats 4000000 in
theorem files_any (w : World) (v : Value) (l : List Itm) (h : Itms w v l) (hl : l.length ≤ 50000) :
    Calls Try.prog 15 #[v] w fun e w' => ∃ u, e = .returned u ∧ Old w w' ∧ OwnE 75 w' w.heap.size u l := by
  obtain ⟨A, cap, rfl, hc⟩ := h.form
  have HI := Lib.hid h
  clear h
  go_enter Try.func15, Try.ntmps15
  go_wp2_with fail
  go_loopw [3, 4] (fun ov iv wr => ∃ k : Nat, iv = .int .i64 k ∧ k ≤ l.length ∧ Old w wr ∧ Hid (OwnE 75 wr w.heap.size ov (l.take k))) (fun _ iv _ => l.length - (intOf iv).toNat)
  case atStart => exact ⟨0, rfl, Nat.zero_le _, old_alloc _ _, Lib.hid (OwnE.empty (new_bk _ _ _) (Nat.le_refl _))⟩
  case round =>
    obtain ⟨k, rfl, hk, o1, HO⟩ := hrel
    by_cases hlt : k < l.length
    · obtain ⟨x, HX⟩ : ∃ x, Hid (l[k]? = some x) := ⟨l[k], Lib.hid (List.getElem?_eq_getElem hlt)⟩
      obtain ⟨b, off, rfl, hx⟩ := (HI.out.old o1).at_ HX.out
      obtain ⟨x0, x1, x2, x3, x4⟩ := hx.held
      go_wp2_with (at_builtin; refine wp_its rfl (.tmp 12) (.tmp 17) 28 75 Try.underlying28 Try.infoItemR rfl (W0 := w) (o1.al _) _ (l.take k) [x] rfl (HO.out.old (old_alloc _ _)) _ rfl (one_its (new_bk _ _ _)) (by simp; omega) ?_; intro v8 w8 n8 o8; refine Hid.out ?_)
      rw [take_at HX.out] at n8
      have HN := Lib.hid n8
      clear x0 x1 x2 x3 x4 hx HO HX n8
      refine Lib.hid ?_
      go_wp2
      go_roundw
      case rel => exact ⟨k + 1, by go_num, by omega, o8, HN⟩
      case measure => simp [intOf]; omega
    · obtain rfl : k = l.length := by omega
      have HE := HO.out
      rw [List.take_length] at HE
      have HE := Lib.hid HE
      clear HO
      go_wp2
      go_ret
      exact ⟨_, rfl, o1, HE.out⟩
/-- The edit of the document's own type. -/
def RdV (v : Value) (Ad : Option Addr) (dl dc : Nat) (e : Ed) : Value := .agg #[v, .slice Ad dl dc, .int .u64 (e.next : Int), .int .u64 (e.fl : Int)]
theorem ed_old {w W W' : World} {h : Nat} {x0 x1 x2 x3 : Value} (k0 : Old w W ∧ W.cell? ⟨h, 0, none⟩ = some x0 ∧ W.cell? ⟨h, 1, none⟩ = some x1 ∧ W.cell? ⟨h, 2, none⟩ = some x2 ∧ W.cell? ⟨h, 3, none⟩ = some x3) (k : Old W W') : Old w W' ∧ W'.cell? ⟨h, 0, none⟩ = some x0 ∧ W'.cell? ⟨h, 1, none⟩ = some x1 ∧ W'.cell? ⟨h, 2, none⟩ = some x2 ∧ W'.cell? ⟨h, 3, none⟩ = some x3 := by
  obtain ⟨h0, a0, a1, a2, a3⟩ := k0
  exact ⟨h0.tr k, cell_old a0 k, cell_old a1 k, cell_old a2 k, cell_old a3 k⟩
theorem far_cell (W : World) (g h o p : Nat) (u : Value) (hne : g ≠ h) : (W.setCell ⟨h, p, none⟩ u).cell? ⟨g, o, none⟩ = W.cell? ⟨g, o, none⟩ :=
  World.cell?_of_block (a := ⟨g, o, none⟩) (Below.heap_setCell W ⟨h, p, none⟩ u g hne)
theorem ed_store {w W : World} {h : Nat} {x0 x1 x2 x3 u0 u1 u2 u3 : Value} (k0 : Old w W ∧ W.cell? ⟨h, 0, none⟩ = some x0 ∧ W.cell? ⟨h, 1, none⟩ = some x1 ∧ W.cell? ⟨h, 2, none⟩ = some x2 ∧ W.cell? ⟨h, 3, none⟩ = some x3) (hz : w.heap.size ≤ h + 1) {W' : World} (hW : W' = (((W.setCell ⟨h + 1, 0, none⟩ u0).setCell ⟨h + 1, 1, none⟩ u1).setCell ⟨h + 1, 2, none⟩ u2).setCell ⟨h + 1, 3, none⟩ u3) :
    Old w W' ∧ W'.cell? ⟨h, 0, none⟩ = some x0 ∧ W'.cell? ⟨h, 1, none⟩ = some x1 ∧ W'.cell? ⟨h, 2, none⟩ = some x2 ∧ W'.cell? ⟨h, 3, none⟩ = some x3 := by
  subst hW
  obtain ⟨h0, a0, a1, a2, a3⟩ := k0
  have e : ∀ o, ((((W.setCell ⟨h + 1, 0, none⟩ u0).setCell ⟨h + 1, 1, none⟩ u1).setCell ⟨h + 1, 2, none⟩ u2).setCell ⟨h + 1, 3, none⟩ u3).cell? ⟨h, o, none⟩ = W.cell? ⟨h, o, none⟩ := fun o => by
    rw [far_cell _ _ _ _ _ _ (by omega), far_cell _ _ _ _ _ _ (by omega), far_cell _ _ _ _ _ _ (by omega), far_cell _ _ _ _ _ _ (by omega)]
  exact ⟨(((h0.st (p := ⟨h + 1, _, none⟩) hz _).st (p := ⟨h + 1, _, none⟩) hz _).st (p := ⟨h + 1, _, none⟩) hz _).st (p := ⟨h + 1, _, none⟩) hz _, (e 0).trans a0, (e 1).trans a1, (e 2).trans a2, (e 3).trans a3⟩
set_option maxRecDepth 10000 in
set_option maxHeartbeats 4000000 in
theorem edit_any (w : World) (va : Value) (Ad : Option Addr) (dl dc : Nat) (e : Ed) (h : Itms w va e.add) (hl : e.add.length ≤ 50000) :
    Calls Try.prog 13 #[.agg #[va, .slice Ad dl dc, .int .u64 (e.next : Int), .int .u64 (e.fl : Int)]] w fun r w' => ∃ u, r = .returned (RdV u Ad dl dc e) ∧ Old w w' ∧ OwnE 75 w' w.heap.size u e.add := by
  obtain ⟨A, cap, rfl, -⟩ := h.form
  have HI := Lib.hid h
  clear h
  go_enter Try.func13, Try.ntmps13
  go_wp2_with fail
  have O1 := ((Old.re w).al (.cells #[.slice A e.add.length cap, .slice Ad dl dc, .int .u64 (e.next : Int), .int .u64 (e.fl : Int)] 34)).al (.cells #[.slice none 0 0, .slice none 0 0, .int .u64 0, .int .u64 0] 41)
  have B1 := (new_bk w 34 #[.slice A e.add.length cap, .slice Ad dl dc, .int .u64 (e.next : Int), .int .u64 (e.fl : Int)]).alloc (.cells #[.slice none 0 0, .slice none 0 0, .int .u64 0, .int .u64 0] 41)
  have B2 := new_bk1 w (.cells #[.slice A e.add.length cap, .slice Ad dl dc, .int .u64 (e.next : Int), .int .u64 (e.fl : Int)] 34) 41 #[.slice none 0 0, .slice none 0 0, .int .u64 0, .int .u64 0]
  generalize (w.alloc (.cells #[.slice A e.add.length cap, .slice Ad dl dc, .int .u64 (e.next : Int), .int .u64 (e.fl : Int)] 34)).alloc (.cells #[.slice none 0 0, .slice none 0 0, .int .u64 0, .int .u64 0] 41) = w1 at *
  obtain ⟨h, hh⟩ : ∃ h, h = w.heap.size := ⟨_, rfl⟩
  have HZ : w.heap.size ≤ h + 1 := by omega
  rw [← hh] at B1 B2 ⊢
  have HB1 := Lib.hid B1
  have HB2 := Lib.hid B2
  have a0 : w1.cell? ⟨h, 0, none⟩ = some (.slice A e.add.length cap) := B1.cell 0
  have a1 : w1.cell? ⟨h, 1, none⟩ = some (.slice Ad dl dc) := B1.cell 1
  have a2 : w1.cell? ⟨h, 2, none⟩ = some (.int .u64 (e.next : Int)) := B1.cell 2
  have a3 : w1.cell? ⟨h, 3, none⟩ = some (.int .u64 (e.fl : Int)) := B1.cell 3
  have HI1 := Lib.hid (HI.out.old O1)
  have HO1 := Lib.hid O1
  clear hh B1 B2 O1 HI
  have hS : Old w w1.drew ∧ w1.drew.cell? ⟨h, 0, none⟩ = some (.slice A e.add.length cap) ∧ w1.drew.cell? ⟨h, 1, none⟩ = some (.slice Ad dl dc) ∧ w1.drew.cell? ⟨h, 2, none⟩ = some (.int .u64 (e.next : Int)) ∧ w1.drew.cell? ⟨h, 3, none⟩ = some (.int .u64 (e.fl : Int)) := ⟨HO1.out.dr, a0, a1, a2, a3⟩
  go_region_held3 (fun W => Old w W ∧ W.cell? ⟨h, 0, none⟩ = some (.slice A e.add.length cap) ∧ W.cell? ⟨h, 1, none⟩ = some (.slice Ad dl dc) ∧ W.cell? ⟨h, 2, none⟩ = some (.int .u64 (e.next : Int)) ∧ W.cell? ⟨h, 3, none⟩ = some (.int .u64 (e.fl : Int))) (first | exact hS | exact ed_old (by assumption) (by assumption) | exact ed_store (by assumption) HZ rfl)
    (first | (go_at_call 15; (with_reducible refine (files_any _ _ e.add (HI1.out.old (by first | exact Old.re _ | exact (Old.re _).dr)) hl).mono ?_); rintro r w2 ⟨u, rfl, o2, n2⟩; obtain ⟨A2, c2, rfl, -⟩ := n2.form; have HN2 := Lib.hid n2; clear n2; have O2 : Old w1 w2 := (by first | exact o2 | exact ((Old.re w1).dr).tr o2); have HC2 := Lib.hid (HB2.out.old O2); clear O2; have c0 : w2.cell? ⟨h + 1, 0, none⟩ = some (.slice none 0 0) := HC2.out.cell 0; have c1 : w2.cell? ⟨h + 1, 1, none⟩ = some (.slice none 0 0) := HC2.out.cell 1; have cc2 : w2.cell? ⟨h + 1, 2, none⟩ = some (.int .u64 0) := HC2.out.cell 2; have c3 : w2.cell? ⟨h + 1, 3, none⟩ = some (.int .u64 0) := HC2.out.cell 3; have f0 : w2.frozen? ⟨h + 1, 0, none⟩ = false := HC2.out.fr 0; have f1 : w2.frozen? ⟨h + 1, 1, none⟩ = false := HC2.out.fr 1; have f2 : w2.frozen? ⟨h + 1, 2, none⟩ = false := HC2.out.fr 2; have f3 : w2.frozen? ⟨h + 1, 3, none⟩ = false := HC2.out.fr 3))
  rename_i hHeld
  have e0 := HC2.out.set_ 0 (.slice A2 e.add.length c2)
  have e1 := e0.set_ 1 (.slice Ad dl dc)
  have e2 := e1.set_ 2 (.int .u64 (e.next : Int))
  have e3 := e2.set_ 3 (.int .u64 (e.fl : Int))
  have HN3 := Lib.hid ((((HN2.out.far HC2.out (by decide) 0 (.slice A2 e.add.length c2)).far e0 (by decide) 1 (.slice Ad dl dc)).far e1 (by decide) 2 (.int .u64 (e.next : Int))).far e2 (by decide) 3 (.int .u64 (e.fl : Int)))
  have O4 := hHeld.1
  have hb1 := HO1.out.dr.size
  generalize ((((w2.setCell ⟨h + 1, 0, none⟩ (.slice A2 e.add.length c2)).setCell ⟨h + 1, 1, none⟩ (.slice Ad dl dc)).setCell ⟨h + 1, 2, none⟩ (.int .u64 (e.next : Int))).setCell ⟨h + 1, 3, none⟩ (.int .u64 (e.fl : Int))) = w4 at *
  have z0 : w4.cell? ⟨h + 1, 0, none⟩ = some (.slice A2 e.add.length c2) := e3.cell 0
  have z1 : w4.cell? ⟨h + 1, 1, none⟩ = some (.slice Ad dl dc) := e3.cell 1
  have z2 : w4.cell? ⟨h + 1, 2, none⟩ = some (.int .u64 (e.next : Int)) := e3.cell 2
  have z3 : w4.cell? ⟨h + 1, 3, none⟩ = some (.int .u64 (e.fl : Int)) := e3.cell 3
  have HN4 := Lib.hid (HN3.out.lower hb1)
  clear e0 e1 e2 e3 hHeld HN3 hb1 hS
  go_wp2
  refine bodyPost_ret (v := RdV (.slice A2 e.add.length c2) Ad dl dc e) (by simp [results, Try.results13, go_sem, z0, z1, z2, z3, RdV]) rfl ⟨_, rfl, O4, HN4.out⟩
def smallI (x : Itm) : Bool := decide (x.name.length ≤ 100) && (decide (x.low.length ≤ 100) && decide (x.high.length ≤ 100))
def boundF (l : List Itm) : Bool := l.all smallI && decide (l.length ≤ 40)
theorem bound_no {l : List Itm} {k : Nat} {x : Itm} (hx : l[k]? = some x) (h : 100 < x.name.length ∨ 100 < x.low.length ∨ 100 < x.high.length) : boundF l = false := by
  unfold boundF
  have : l.all smallI = false := by
    rw [List.all_eq_false]
    refine ⟨x, List.mem_of_getElem? hx, ?_⟩
    simp [smallI]
    omega
  rw [this]
  rfl
set_option maxRecDepth 10000 in
set_option maxHeartbeats 4000000 in
theorem bounded_any (w : World) (v : Value) (l : List Itm) (h : Itms w v l) (hl : l.length ≤ maxLen) :
    Calls Try.prog 25 #[v] w fun e w' => e = .returned (.bool (boundF l)) ∧ w' = w := by
  obtain ⟨A, cap, rfl, hc⟩ := h.form
  have hm : l.length ≤ 9223372036854775807 := by unfold maxLen at hl; omega
  have HI := Lib.hid h
  clear h hl
  go_enter Try.func25, Try.ntmps25
  go_wp2_with fail
  go_loop [3] (fun iv => ∃ k : Nat, iv = .int .i64 k ∧ k ≤ l.length ∧ Hid (∀ c ∈ l.take k, smallI c = true)) (fun iv => l.length - (intOf iv).toNat)
  case atStart => exact ⟨0, rfl, Nat.zero_le _, Lib.hid (by simp)⟩
  case round =>
    obtain ⟨k, rfl, hk, HB⟩ := hrel
    by_cases hlt : k < l.length
    · obtain ⟨x, HX⟩ : ∃ x, Hid (l[k]? = some x) := ⟨l[k], Lib.hid (List.getElem?_eq_getElem hlt)⟩
      obtain ⟨b, off, rfl, hx⟩ := HI.out.at_ HX.out
      obtain ⟨x0, x1, x2, x3, x4⟩ := hx.held
      have HNo := Lib.hid fun h => bound_no HX.out h
      have HYes := Lib.hid (show (x.name.length ≤ 100 ∧ x.low.length ≤ 100 ∧ x.high.length ≤ 100) → ∀ c ∈ l.take (k + 1), smallI c = true from fun h c' hc' => by
        rw [← take_at HX.out] at hc'
        rcases List.mem_append.1 hc' with hc' | hc'
        · exact HB.out c' hc'
        · rw [List.mem_singleton.1 hc']; simp [smallI]; omega)
      clear HX hx
      by_cases h1 : x.name.length ≤ 100
      · by_cases h2 : x.low.length ≤ 100
        · by_cases h3 : x.high.length ≤ 100
          · go_wp2
            go_round
            case rel => exact ⟨k + 1, by go_num, by omega, Lib.hid (HYes.out ⟨h1, h2, h3⟩)⟩
            case measure => simp [intOf]; omega
          · go_wp2
            go_ret
            exact ⟨ret_bool (by rw [HNo.out (by omega)]), rfl⟩
        · go_wp2
          go_ret
          exact ⟨ret_bool (by rw [HNo.out (by omega)]), rfl⟩
      · go_wp2
        go_ret
        exact ⟨ret_bool (by rw [HNo.out (by omega)]), rfl⟩
    · obtain rfl : k = l.length := by omega
      have HE := Lib.hid (show boundF l = decide (l.length ≤ 40) by
        have := HB.out
        rw [List.take_length] at this
        unfold boundF
        rw [List.all_eq_true.2 this]
        rfl)
      clear HB
      by_cases g1 : l.length ≤ 40
      · go_wp2
        go_ret
        exact ⟨ret_bool (by rw [HE.out]; simp [g1]; try omega), rfl⟩
      · go_wp2
        go_ret
        exact ⟨ret_bool (by rw [HE.out]; simp [g1]; try omega), rfl⟩
end Go.Proofs.Yteglddggjkibcaa
