/-
  Append of the document's own log. Conditions: a disk that holds a log's files alone; up to 1000 texts of up to 1000000 bytes.
-/
import Derived.Test.YtilimfbjkgeciaaDoorRTR
namespace Go.Proofs.YtilimfbjkgeciaaDoor
set_option maxRecDepth 100000
open Go.RowKit

def rputs (x s : List UInt8) (r : Pd) : Pd × Int := rthen (rappend r x s) fun d => rsync d x
set_option maxHeartbeats 8000000 in
theorem rappendL_any (A : Option Addr) (c : Nat) (r : Pd) (x : List UInt8) (m : Int) (dd : Bool) (l : List (List UInt8)) (Al : Option Addr) (cl : Nat) (hG : Good x r) (hm : 0 ≤ m) (hm2 : m ≤ 1000000000000) (hml : l.length ≤ 1000) (hsm : ∀ t ∈ l, t.length ≤ 1000000) (w : World) (hS : Strs w Al cl l) (h : Flt w (.slice A r.files.length c) r.files) :
    Calls Tryd.prog 15 #[Rv (.slice A r.files.length c) r, Rlv x m dd, .slice Al l.length cl] w (PostRL x w (rchange (rputs x) r m dd l (m + l.length))) := by
  obtain ⟨cap, F, up, left, keep⟩ := r
  simp only at h ⊢
  obtain ⟨R, hR⟩ : ∃ R, R = rchange (rputs x) ⟨cap, F, up, left, keep⟩ m dd l (m + l.length) := ⟨_, rfl⟩
  rw [← hR]
  have o0 := (((old_alloc w (.cells #[.int .i64 (cap : Int), .slice A F.length c, .bool (!up), .int .i64 (left : Int), .int .i64 keep] 29)).al (.cells #[.string (B x), .int .i64 m, .bool dd] 36)).al (.cells zeroDsk 29)).al (.cells zeroLg 36)
  have b1 := (((new_bk w 29 #[.int .i64 (cap : Int), .slice A F.length c, .bool (!up), .int .i64 (left : Int), .int .i64 keep]).old (old_alloc _ (.cells #[.string (B x), .int .i64 m, .bool dd] 36))).old (old_alloc _ (.cells zeroDsk 29))).old (old_alloc _ (.cells zeroLg 36))
  have b2 := ((new_bk' (w.alloc (.cells #[.int .i64 (cap : Int), .slice A F.length c, .bool (!up), .int .i64 (left : Int), .int .i64 keep] 29)) 36 #[.string (B x), .int .i64 m, .bool dd] (w.heap.size + 1) (by simp)).old (old_alloc _ (.cells zeroDsk 29))).old (old_alloc _ (.cells zeroLg 36))
  have b3 := (new_bk' ((w.alloc (.cells #[.int .i64 (cap : Int), .slice A F.length c, .bool (!up), .int .i64 (left : Int), .int .i64 keep] 29)).alloc (.cells #[.string (B x), .int .i64 m, .bool dd] 36)) 29 zeroDsk (w.heap.size + 1 + 1) (by simp)).old (old_alloc _ (.cells zeroLg 36))
  have b4 := new_bk' (((w.alloc (.cells #[.int .i64 (cap : Int), .slice A F.length c, .bool (!up), .int .i64 (left : Int), .int .i64 keep] 29)).alloc (.cells #[.string (B x), .int .i64 m, .bool dd] 36)).alloc (.cells zeroDsk 29)) 36 zeroLg (w.heap.size + 1 + 1 + 1) (by simp)
  have HH := Lib.hid (show _ ∧ _ ∧ _ ∧ _ ∧ _ ∧ _ ∧ _ from ⟨o0, b1, b2, b3, b4, h.old o0, hS.old o0⟩)
  have HG := Lib.hid hG
  have HR := Lib.hid hR
  clear hR h hG hS o0 b1 b2 b3 b4
  have n34 : w.heap.size + 1 + 1 ≠ w.heap.size + 1 + 1 + 1 := by omega
  have n43 : w.heap.size + 1 + 1 + 1 ≠ w.heap.size + 1 + 1 := by omega
  have n31 : w.heap.size + 1 + 1 ≠ w.heap.size := by omega
  have n32 : w.heap.size + 1 + 1 ≠ w.heap.size + 1 := by omega
  have n41 : w.heap.size + 1 + 1 + 1 ≠ w.heap.size := by omega
  have n42 : w.heap.size + 1 + 1 + 1 ≠ w.heap.size + 1 := by omega
  have n21 : w.heap.size + 1 ≠ w.heap.size := by omega
  have le3 : w.heap.size ≤ w.heap.size + 1 + 1 := by omega
  have le4 : w.heap.size ≤ w.heap.size + 1 + 1 + 1 := by omega
  go_enter Tryd.func15, Tryd.ntmps15
  go_upto_region 1 with (fail)
  obtain ⟨o, b1, b2, b3, b4, hf, hS⟩ := HH.out
  clear HH
  generalize ((((w.alloc (.cells #[.int .i64 (cap : Int), .slice A F.length c, .bool (!up), .int .i64 (left : Int), .int .i64 keep] 29)).alloc (.cells #[.string (B x), .int .i64 m, .bool dd] 36)).alloc (.cells zeroDsk 29)).alloc (.cells zeroLg 36)) = W at *
  have HFL := Lib.hid hf
  have HSS := Lib.hid hS
  clear hf hS
  cases dd with
  | true =>
    have HX := Lib.hid (show R = ⟨⟨cap, F, up, left, keep⟩, m, true, 6⟩ by rw [HR.out]; unfold rchange; rw [if_pos rfl])
    clear HR HSS HG
    have y0 : W.cell? ⟨w.heap.size, 0, none⟩ = some (.int .i64 (cap : Int)) := b1.at_ 0 rfl
    have y1 : W.cell? ⟨w.heap.size, 1, none⟩ = some (.slice A F.length c) := b1.at_ 1 rfl
    have y2 : W.cell? ⟨w.heap.size, 2, none⟩ = some (.bool (!up)) := b1.at_ 2 rfl
    have y3 : W.cell? ⟨w.heap.size, 3, none⟩ = some (.int .i64 (left : Int)) := b1.at_ 3 rfl
    have y4 : W.cell? ⟨w.heap.size, 4, none⟩ = some (.int .i64 keep) := b1.at_ 4 rfl
    have v0 : W.cell? ⟨w.heap.size + 1, 0, none⟩ = some (.string (B x)) := b2.at_ 0 rfl
    have v1 : W.cell? ⟨w.heap.size + 1, 1, none⟩ = some (.int .i64 m) := b2.at_ 1 rfl
    have v2 : W.cell? ⟨w.heap.size + 1, 2, none⟩ = some (.bool true) := b2.at_ 2 rfl
    have d0 : W.cell? ⟨w.heap.size + 1 + 1, 0, none⟩ = some (.int .i64 0) := b3.at_ 0 rfl
    have d1 : W.cell? ⟨w.heap.size + 1 + 1, 1, none⟩ = some (.slice none 0 0) := b3.at_ 1 rfl
    have d2 : W.cell? ⟨w.heap.size + 1 + 1, 2, none⟩ = some (.bool false) := b3.at_ 2 rfl
    have d3 : W.cell? ⟨w.heap.size + 1 + 1, 3, none⟩ = some (.int .i64 0) := b3.at_ 3 rfl
    have d4 : W.cell? ⟨w.heap.size + 1 + 1, 4, none⟩ = some (.int .i64 0) := b3.at_ 4 rfl
    have df0 := b3.fr 0
    have df1 := b3.fr 1
    have df2 := b3.fr 2
    have df3 := b3.fr 3
    have df4 := b3.fr 4
    have g0 : W.cell? ⟨w.heap.size + 1 + 1 + 1, 0, none⟩ = some (.string { data := #[] }) := b4.at_ 0 rfl
    have g1 : W.cell? ⟨w.heap.size + 1 + 1 + 1, 1, none⟩ = some (.int .i64 0) := b4.at_ 1 rfl
    have g2 : W.cell? ⟨w.heap.size + 1 + 1 + 1, 2, none⟩ = some (.bool false) := b4.at_ 2 rfl
    have gf0 := b4.fr 0
    have gf1 := b4.fr 1
    have gf2 := b4.fr 2
    have p3 := bfar3 (bk5 b3 (.int .i64 (cap : Int)) (.slice A F.length c) (.bool (!up)) (.int .i64 (left : Int)) (.int .i64 keep)) n34 (.string (B x)) (.int .i64 m) (.bool true)
    have p4 := bk3 (bfar5 b4 n43 (.int .i64 (cap : Int)) (.slice A F.length c) (.bool (!up)) (.int .i64 (left : Int)) (.int .i64 keep)) (.string (B x)) (.int .i64 m) (.bool true)
    have po := old3 (old5 o le3 (.int .i64 (cap : Int)) (.slice A F.length c) (.bool (!up)) (.int .i64 (left : Int)) (.int .i64 keep)) le4 (.string (B x)) (.int .i64 m) (.bool true)
    have pf := far3 (HFL.out.far5 b3 (by decide) (.int .i64 (cap : Int)) (.slice A F.length c) (.bool (!up)) (.int .i64 (left : Int)) (.int .i64 keep)) (bfar5 b4 n43 (.int .i64 (cap : Int)) (.slice A F.length c) (.bool (!up)) (.int .i64 (left : Int)) (.int .i64 keep)) (by decide) (.string (B x)) (.int .i64 m) (.bool true)
    have HE := Lib.hid (show _ ∧ _ ∧ _ ∧ _ from ⟨po, p3, p4, pf⟩)
    clear b1 b2 b3 b4 o po p3 p4 pf
    go_wp2_with fail
    go_region
    obtain ⟨po, p3, p4, pf⟩ := HE.out
    generalize ((((((((W.setCell ⟨w.heap.size + 1 + 1, 0, none⟩ (.int .i64 (cap : Int))).setCell ⟨w.heap.size + 1 + 1, 1, none⟩ (.slice A F.length c)).setCell ⟨w.heap.size + 1 + 1, 2, none⟩ (.bool (!up))).setCell ⟨w.heap.size + 1 + 1, 3, none⟩ (.int .i64 (left : Int))).setCell ⟨w.heap.size + 1 + 1, 4, none⟩ (.int .i64 keep)).setCell ⟨w.heap.size + 1 + 1 + 1, 0, none⟩ (.string (B x))).setCell ⟨w.heap.size + 1 + 1 + 1, 1, none⟩ (.int .i64 m)).setCell ⟨w.heap.size + 1 + 1 + 1, 2, none⟩ (.bool true)) = WF at *
    have z0 : WF.drew.cell? ⟨w.heap.size + 1 + 1, 0, none⟩ = some (.int .i64 (cap : Int)) := p3.at_ 0 rfl
    have z1 : WF.drew.cell? ⟨w.heap.size + 1 + 1, 1, none⟩ = some (.slice A F.length c) := p3.at_ 1 rfl
    have z2 : WF.drew.cell? ⟨w.heap.size + 1 + 1, 2, none⟩ = some (.bool (!up)) := p3.at_ 2 rfl
    have z3 : WF.drew.cell? ⟨w.heap.size + 1 + 1, 3, none⟩ = some (.int .i64 (left : Int)) := p3.at_ 3 rfl
    have z4 : WF.drew.cell? ⟨w.heap.size + 1 + 1, 4, none⟩ = some (.int .i64 keep) := p3.at_ 4 rfl
    have x0 : WF.drew.cell? ⟨w.heap.size + 1 + 1 + 1, 0, none⟩ = some (.string (B x)) := p4.at_ 0 rfl
    have x1 : WF.drew.cell? ⟨w.heap.size + 1 + 1 + 1, 1, none⟩ = some (.int .i64 m) := p4.at_ 1 rfl
    have x2 : WF.drew.cell? ⟨w.heap.size + 1 + 1 + 1, 2, none⟩ = some (.bool true) := p4.at_ 2 rfl
    go_wp2
    refine bodyPost_ret (v := .tuple #[Rv (.slice A F.length c) ⟨cap, F, up, left, keep⟩, Rlv x m true, .int .i64 6]) (by simp [results, Tryd.results15, go_sem, z0, z1, z2, z3, z4, x0, x1, x2]) rfl ?_
    rw [HX.out]
    exact ⟨_, _, rfl, pf.old (Old.re _).dr, po.dr⟩
  | false =>
    have y0 : W.cell? ⟨w.heap.size, 0, none⟩ = some (.int .i64 (cap : Int)) := b1.at_ 0 rfl
    have y1 : W.cell? ⟨w.heap.size, 1, none⟩ = some (.slice A F.length c) := b1.at_ 1 rfl
    have y2 : W.cell? ⟨w.heap.size, 2, none⟩ = some (.bool (!up)) := b1.at_ 2 rfl
    have y3 : W.cell? ⟨w.heap.size, 3, none⟩ = some (.int .i64 (left : Int)) := b1.at_ 3 rfl
    have y4 : W.cell? ⟨w.heap.size, 4, none⟩ = some (.int .i64 keep) := b1.at_ 4 rfl
    have v0 : W.cell? ⟨w.heap.size + 1, 0, none⟩ = some (.string (B x)) := b2.at_ 0 rfl
    have v1 : W.cell? ⟨w.heap.size + 1, 1, none⟩ = some (.int .i64 m) := b2.at_ 1 rfl
    have v2 : W.cell? ⟨w.heap.size + 1, 2, none⟩ = some (.bool false) := b2.at_ 2 rfl
    have HJ := Lib.hid (rjoin_any l Al cl W HSS.out hml hsm)
    go_wp2_with fail
    refine HJ.out.mono ?_
    rintro e w1 ⟨rfl, o1⟩
    have o := o.tr o1
    have b1 := b1.old o1
    have b2 := b2.old o1
    have b3 := b3.old o1
    have b4 := b4.old o1
    have hf := HFL.out.old o1
    clear HJ HFL HSS y0 y1 y2 y3 y4 v0 v1 v2 o1
    have HFL := Lib.hid hf
    clear hf
    cases hV : l.any wideT with
    | true =>
      have HX := Lib.hid (show R = ⟨⟨cap, F, up, left, keep⟩, m, false, 71⟩ by rw [HR.out]; unfold rchange; rw [if_neg (by decide), if_pos hV])
      clear HR HG
      have y0 : w1.cell? ⟨w.heap.size, 0, none⟩ = some (.int .i64 (cap : Int)) := b1.at_ 0 rfl
      have y1 : w1.cell? ⟨w.heap.size, 1, none⟩ = some (.slice A F.length c) := b1.at_ 1 rfl
      have y2 : w1.cell? ⟨w.heap.size, 2, none⟩ = some (.bool (!up)) := b1.at_ 2 rfl
      have y3 : w1.cell? ⟨w.heap.size, 3, none⟩ = some (.int .i64 (left : Int)) := b1.at_ 3 rfl
      have y4 : w1.cell? ⟨w.heap.size, 4, none⟩ = some (.int .i64 keep) := b1.at_ 4 rfl
      have v0 : w1.cell? ⟨w.heap.size + 1, 0, none⟩ = some (.string (B x)) := b2.at_ 0 rfl
      have v1 : w1.cell? ⟨w.heap.size + 1, 1, none⟩ = some (.int .i64 m) := b2.at_ 1 rfl
      have v2 : w1.cell? ⟨w.heap.size + 1, 2, none⟩ = some (.bool false) := b2.at_ 2 rfl
      have d0 : w1.cell? ⟨w.heap.size + 1 + 1, 0, none⟩ = some (.int .i64 0) := b3.at_ 0 rfl
      have d1 : w1.cell? ⟨w.heap.size + 1 + 1, 1, none⟩ = some (.slice none 0 0) := b3.at_ 1 rfl
      have d2 : w1.cell? ⟨w.heap.size + 1 + 1, 2, none⟩ = some (.bool false) := b3.at_ 2 rfl
      have d3 : w1.cell? ⟨w.heap.size + 1 + 1, 3, none⟩ = some (.int .i64 0) := b3.at_ 3 rfl
      have d4 : w1.cell? ⟨w.heap.size + 1 + 1, 4, none⟩ = some (.int .i64 0) := b3.at_ 4 rfl
      have df0 := b3.fr 0
      have df1 := b3.fr 1
      have df2 := b3.fr 2
      have df3 := b3.fr 3
      have df4 := b3.fr 4
      have g0 : w1.cell? ⟨w.heap.size + 1 + 1 + 1, 0, none⟩ = some (.string { data := #[] }) := b4.at_ 0 rfl
      have g1 : w1.cell? ⟨w.heap.size + 1 + 1 + 1, 1, none⟩ = some (.int .i64 0) := b4.at_ 1 rfl
      have g2 : w1.cell? ⟨w.heap.size + 1 + 1 + 1, 2, none⟩ = some (.bool false) := b4.at_ 2 rfl
      have gf0 := b4.fr 0
      have gf1 := b4.fr 1
      have gf2 := b4.fr 2
      have p3 := bfar3 (bk5 b3 (.int .i64 (cap : Int)) (.slice A F.length c) (.bool (!up)) (.int .i64 (left : Int)) (.int .i64 keep)) n34 (.string (B x)) (.int .i64 m) (.bool false)
      have p4 := bk3 (bfar5 b4 n43 (.int .i64 (cap : Int)) (.slice A F.length c) (.bool (!up)) (.int .i64 (left : Int)) (.int .i64 keep)) (.string (B x)) (.int .i64 m) (.bool false)
      have po := old3 (old5 o le3 (.int .i64 (cap : Int)) (.slice A F.length c) (.bool (!up)) (.int .i64 (left : Int)) (.int .i64 keep)) le4 (.string (B x)) (.int .i64 m) (.bool false)
      have pf := far3 (HFL.out.far5 b3 (by decide) (.int .i64 (cap : Int)) (.slice A F.length c) (.bool (!up)) (.int .i64 (left : Int)) (.int .i64 keep)) (bfar5 b4 n43 (.int .i64 (cap : Int)) (.slice A F.length c) (.bool (!up)) (.int .i64 (left : Int)) (.int .i64 keep)) (by decide) (.string (B x)) (.int .i64 m) (.bool false)
      have HE := Lib.hid (show _ ∧ _ ∧ _ ∧ _ from ⟨po, p3, p4, pf⟩)
      clear b1 b2 b3 b4 o po p3 p4 pf
      go_wp2_with fail
      go_region
      obtain ⟨po, p3, p4, pf⟩ := HE.out
      generalize ((((((((w1.setCell ⟨w.heap.size + 1 + 1, 0, none⟩ (.int .i64 (cap : Int))).setCell ⟨w.heap.size + 1 + 1, 1, none⟩ (.slice A F.length c)).setCell ⟨w.heap.size + 1 + 1, 2, none⟩ (.bool (!up))).setCell ⟨w.heap.size + 1 + 1, 3, none⟩ (.int .i64 (left : Int))).setCell ⟨w.heap.size + 1 + 1, 4, none⟩ (.int .i64 keep)).setCell ⟨w.heap.size + 1 + 1 + 1, 0, none⟩ (.string (B x))).setCell ⟨w.heap.size + 1 + 1 + 1, 1, none⟩ (.int .i64 m)).setCell ⟨w.heap.size + 1 + 1 + 1, 2, none⟩ (.bool false)) = WF at *
      have z0 : WF.drew.cell? ⟨w.heap.size + 1 + 1, 0, none⟩ = some (.int .i64 (cap : Int)) := p3.at_ 0 rfl
      have z1 : WF.drew.cell? ⟨w.heap.size + 1 + 1, 1, none⟩ = some (.slice A F.length c) := p3.at_ 1 rfl
      have z2 : WF.drew.cell? ⟨w.heap.size + 1 + 1, 2, none⟩ = some (.bool (!up)) := p3.at_ 2 rfl
      have z3 : WF.drew.cell? ⟨w.heap.size + 1 + 1, 3, none⟩ = some (.int .i64 (left : Int)) := p3.at_ 3 rfl
      have z4 : WF.drew.cell? ⟨w.heap.size + 1 + 1, 4, none⟩ = some (.int .i64 keep) := p3.at_ 4 rfl
      have x0 : WF.drew.cell? ⟨w.heap.size + 1 + 1 + 1, 0, none⟩ = some (.string (B x)) := p4.at_ 0 rfl
      have x1 : WF.drew.cell? ⟨w.heap.size + 1 + 1 + 1, 1, none⟩ = some (.int .i64 m) := p4.at_ 1 rfl
      have x2 : WF.drew.cell? ⟨w.heap.size + 1 + 1 + 1, 2, none⟩ = some (.bool false) := p4.at_ 2 rfl
      go_wp2
      refine bodyPost_ret (v := .tuple #[Rv (.slice A F.length c) ⟨cap, F, up, left, keep⟩, Rlv x m false, .int .i64 71]) (by simp [results, Tryd.results15, go_sem, z0, z1, z2, z3, z4, x0, x1, x2]) rfl ?_
      rw [HX.out]
      exact ⟨_, _, rfl, pf.old (Old.re _).dr, po.dr⟩
    | false =>
      have HR1 := Lib.hid (show R = ⟨(rputs x (jS l) ⟨cap, F, up, left, keep⟩).1, tM m (rputs x (jS l) ⟨cap, F, up, left, keep⟩).2 (m + l.length), tD false (rputs x (jS l) ⟨cap, F, up, left, keep⟩).2, (rputs x (jS l) ⟨cap, F, up, left, keep⟩).2⟩ by rw [HR.out]; unfold rchange; rw [if_neg (by decide), if_neg (by rw [hV]; decide)])
      have hjl : (jS l).length ≤ 1000000000000 := by
        unfold jS
        rw [if_neg (by rw [hV]; decide)]
        have := puts_le l (fun t ht => wide_not (by have := hV; rw [List.any_eq_false] at this; simpa using this t ht))
        omega
      clear HR
      obtain ⟨RT, hRT⟩ : ∃ RT, RT = rputs x (jS l) ⟨cap, F, up, left, keep⟩ := ⟨_, rfl⟩
      rw [← hRT] at HR1
      unfold rputs at hRT
      obtain ⟨R1, hR1⟩ : ∃ R1, R1 = rappend ⟨cap, F, up, left, keep⟩ x (jS l) := ⟨_, rfl⟩
      have HG1 : Good x R1.1 := by rw [hR1]; exact good_append HG.out x (jS l)
      rw [← hR1] at hRT
      have HRT := Lib.hid hRT
      clear hRT
      have wr : IntKind.i64.wrap (m + (l.length : Int)) = m + (l.length : Int) := by rw [IntKind.wrap_i64]; omega
      have HC := rappend_any A c ⟨cap, F, up, left, keep⟩ x (jS l) HG.out.fin HG.out.left HG.out.two.nd HG.out.cap hjl w1 HFL.out
      rw [← hR1] at HC
      have HC := Lib.hid HC
      clear hR1 hjl HG
      generalize jS l = J at *
      have y0 : w1.cell? ⟨w.heap.size, 0, none⟩ = some (.int .i64 (cap : Int)) := b1.at_ 0 rfl
      have y1 : w1.cell? ⟨w.heap.size, 1, none⟩ = some (.slice A F.length c) := b1.at_ 1 rfl
      have y2 : w1.cell? ⟨w.heap.size, 2, none⟩ = some (.bool (!up)) := b1.at_ 2 rfl
      have y3 : w1.cell? ⟨w.heap.size, 3, none⟩ = some (.int .i64 (left : Int)) := b1.at_ 3 rfl
      have y4 : w1.cell? ⟨w.heap.size, 4, none⟩ = some (.int .i64 keep) := b1.at_ 4 rfl
      have v0 : w1.cell? ⟨w.heap.size + 1, 0, none⟩ = some (.string (B x)) := b2.at_ 0 rfl
      have v1 : w1.cell? ⟨w.heap.size + 1, 1, none⟩ = some (.int .i64 m) := b2.at_ 1 rfl
      have v2 : w1.cell? ⟨w.heap.size + 1, 2, none⟩ = some (.bool false) := b2.at_ 2 rfl
      go_wp2_with fail
      refine HC.out.mono ?_
      clear HC HFL
      rintro e w3 ⟨A1, c1, rfl, hf, o1⟩
      have o := o.tr o1
      have b1 := b1.old o1
      have b2 := b2.old o1
      have b3 := b3.old o1
      have b4 := b4.old o1
      clear o1 y0 y1 y2 y3 y4 v0 v1 v2
      obtain ⟨⟨cap1, F1, up1, left1, keep1⟩, E1⟩ := R1
      simp only at hf HG1
      have y0 : w3.cell? ⟨w.heap.size, 0, none⟩ = some (.int .i64 (cap : Int)) := b1.at_ 0 rfl
      have y1 : w3.cell? ⟨w.heap.size, 1, none⟩ = some (.slice A F.length c) := b1.at_ 1 rfl
      have y2 : w3.cell? ⟨w.heap.size, 2, none⟩ = some (.bool (!up)) := b1.at_ 2 rfl
      have y3 : w3.cell? ⟨w.heap.size, 3, none⟩ = some (.int .i64 (left : Int)) := b1.at_ 3 rfl
      have y4 : w3.cell? ⟨w.heap.size, 4, none⟩ = some (.int .i64 keep) := b1.at_ 4 rfl
      have yf0 := b1.fr 0
      have yf1 := b1.fr 1
      have yf2 := b1.fr 2
      have yf3 := b1.fr 3
      have yf4 := b1.fr 4
      have HH := Lib.hid (show _ ∧ _ ∧ _ ∧ _ ∧ _ ∧ _ from ⟨(((((o.st (p := ⟨w.heap.size, 0, none⟩) (Nat.le_refl _) (.int .i64 (cap1 : Int))).st (p := ⟨w.heap.size, 1, none⟩) (Nat.le_refl _) (.slice A1 F1.length c1)).st (p := ⟨w.heap.size, 2, none⟩) (Nat.le_refl _) (.bool (!up1))).st (p := ⟨w.heap.size, 3, none⟩) (Nat.le_refl _) (.int .i64 (left1 : Int))).st (p := ⟨w.heap.size, 4, none⟩) (Nat.le_refl _) (.int .i64 keep1)), (bk5 b1 (.int .i64 (cap1 : Int)) (.slice A1 F1.length c1) (.bool (!up1)) (.int .i64 (left1 : Int)) (.int .i64 keep1)), bfar5 b2 n21 (.int .i64 (cap1 : Int)) (.slice A1 F1.length c1) (.bool (!up1)) (.int .i64 (left1 : Int)) (.int .i64 keep1), bfar5 b3 n31 (.int .i64 (cap1 : Int)) (.slice A1 F1.length c1) (.bool (!up1)) (.int .i64 (left1 : Int)) (.int .i64 keep1), bfar5 b4 n41 (.int .i64 (cap1 : Int)) (.slice A1 F1.length c1) (.bool (!up1)) (.int .i64 (left1 : Int)) (.int .i64 keep1), hf.far5 b1 (by decide) (.int .i64 (cap1 : Int)) (.slice A1 F1.length c1) (.bool (!up1)) (.int .i64 (left1 : Int)) (.int .i64 keep1)⟩)
      clear o b1 b2 b3 b4 hf
      go_upto_region 7 with (fail)
      obtain ⟨o, b1, b2, b3, b4, hf⟩ := HH.out
      clear HH y0 y1 y2 y3 y4 yf0 yf1 yf2 yf3 yf4
      generalize (((((w3.setCell ⟨w.heap.size, 0, none⟩ (.int .i64 (cap1 : Int))).setCell ⟨w.heap.size, 1, none⟩ (.slice A1 F1.length c1)).setCell ⟨w.heap.size, 2, none⟩ (.bool (!up1))).setCell ⟨w.heap.size, 3, none⟩ (.int .i64 (left1 : Int))).setCell ⟨w.heap.size, 4, none⟩ (.int .i64 keep1)) = W3 at *
      have HFL1 := Lib.hid hf
      clear hf
      by_cases he : E1 ≠ 0
      · rw [rthen_no he] at HRT
        have hb : (E1 == 0) = false := by simpa using he
        have HX := Lib.hid (show R = ⟨⟨cap1, F1, up1, left1, keep1⟩, tM m E1 (m + l.length), tD false E1, E1⟩ by rw [HR1.out, HRT.out])
        clear HR1 HRT he HG1
        go_upto_region 9 with (fail)
        have hC : W3.drew.cell? ⟨w.heap.size, 0, none⟩ = some (.int .i64 (cap1 : Int)) ∧ W3.drew.cell? ⟨w.heap.size, 1, none⟩ = some (.slice A1 F1.length c1) ∧ W3.drew.cell? ⟨w.heap.size, 2, none⟩ = some (.bool (!up1)) ∧ W3.drew.cell? ⟨w.heap.size, 3, none⟩ = some (.int .i64 (left1 : Int)) ∧ W3.drew.cell? ⟨w.heap.size, 4, none⟩ = some (.int .i64 keep1) ∧ W3.drew.cell? ⟨w.heap.size + 1, 0, none⟩ = some (.string (B x)) ∧ W3.drew.cell? ⟨w.heap.size + 1, 1, none⟩ = some (.int .i64 m) ∧ W3.drew.cell? ⟨w.heap.size + 1, 2, none⟩ = some (.bool false) := ⟨b1.at_ 0 rfl, b1.at_ 1 rfl, b1.at_ 2 rfl, b1.at_ 3 rfl, b1.at_ 4 rfl, b2.at_ 0 rfl, b2.at_ 1 rfl, b2.at_ 2 rfl⟩
        refine wp_region_noPanic ?_
        refine wp_region_held_drew (S := fun V => V.cell? ⟨w.heap.size, 0, none⟩ = some (.int .i64 (cap1 : Int)) ∧ V.cell? ⟨w.heap.size, 1, none⟩ = some (.slice A1 F1.length c1) ∧ V.cell? ⟨w.heap.size, 2, none⟩ = some (.bool (!up1)) ∧ V.cell? ⟨w.heap.size, 3, none⟩ = some (.int .i64 (left1 : Int)) ∧ V.cell? ⟨w.heap.size, 4, none⟩ = some (.int .i64 keep1) ∧ V.cell? ⟨w.heap.size + 1, 0, none⟩ = some (.string (B x)) ∧ V.cell? ⟨w.heap.size + 1, 1, none⟩ = some (.int .i64 m) ∧ V.cell? ⟨w.heap.size + 1, 2, none⟩ = some (.bool false)) (by kernel_rfl) hC (fun hHeld => ?_)
        refine wpAnyH_take (i := 0) (oi := ?o0) (v := .agg #[.int .i64 (cap1 : Int), .slice A1 F1.length c1, .bool (!up1), .int .i64 (left1 : Int), .int .i64 keep1]) ?h0 (by kernel_rfl) (by kernel_rfl) (by kernel_rfl) (fun _ _ _ h => h) ?y0 (by assumption) ?r0
        case h0 => (simp only [List.getElem?_toArray, List.getElem?_cons_zero]; rfl)
        case y0 => exact Or.inl ⟨by rfl, by (intro W hSw; (try dsimp only at hSw); go_simp)⟩
        simp only [Act.put, List.setIfInBounds_toArray, List.set_cons_zero, List.set_cons_succ]
        refine wpAnyH_take (i := 1) (oi := ?o1) (v := .agg #[.string (B x), .int .i64 m, .bool false]) ?h1 (by kernel_rfl) (by kernel_rfl) (by kernel_rfl) (fun _ _ _ h => h) ?y1 (by assumption) ?r1
        case h1 => (simp only [List.getElem?_toArray, List.getElem?_cons_zero, List.getElem?_cons_succ]; rfl)
        case y1 => exact Or.inl ⟨by rfl, by (intro W hSw; (try dsimp only at hSw); go_simp)⟩
        simp only [Act.put, List.setIfInBounds_toArray, List.set_cons_zero, List.set_cons_succ]
        refine wpAnyH_take (i := 2) (oi := ?o2) (v := .int .i64 E1) ?h2 (by kernel_rfl) (by kernel_rfl) (by kernel_rfl) (fun _ _ _ h => h) ?y2 (by assumption) ?r2
        case h2 => (simp only [List.getElem?_toArray, List.getElem?_cons_zero, List.getElem?_cons_succ]; rfl)
        case y2 => exact Or.inl ⟨by rfl, by (intro W hSw; (try dsimp only at hSw); go_simp)⟩
        simp only [Act.put, List.setIfInBounds_toArray, List.set_cons_zero, List.set_cons_succ]
        refine wpAnyH_take (i := 3) (oi := ?o3) (v := .pointer (some ⟨w.heap.size + 1, 1, none⟩)) ?h3 (by kernel_rfl) (by kernel_rfl) (by kernel_rfl) (fun _ _ _ h => h) ?y3 (by assumption) ?r3
        case h3 => (simp only [List.getElem?_toArray, List.getElem?_cons_zero, List.getElem?_cons_succ]; rfl)
        case y3 => exact Or.inl ⟨by rfl, by (intro W hSw; (try dsimp only at hSw); go_simp)⟩
        simp only [Act.put, List.setIfInBounds_toArray, List.set_cons_zero, List.set_cons_succ]
        refine wpAnyH_take (i := 4) (oi := ?o4) (v := .int .i64 m) ?h4 (by kernel_rfl) (by kernel_rfl) (by kernel_rfl) (fun _ _ _ h => h) ?y4 (by assumption) ?r4
        case h4 => (simp only [List.getElem?_toArray, List.getElem?_cons_zero, List.getElem?_cons_succ]; rfl)
        case y4 => exact Or.inl ⟨by rfl, by (intro W hSw; (try dsimp only at hSw); go_simp)⟩
        simp only [Act.put, List.setIfInBounds_toArray, List.set_cons_zero, List.set_cons_succ]
        refine wpAnyH_take (i := 5) (oi := ?o5) (v := .slice Al l.length cl) ?h5 (by kernel_rfl) (by kernel_rfl) (by kernel_rfl) (fun _ _ _ h => h) ?y5 (by assumption) ?r5
        case h5 => (simp only [List.getElem?_toArray, List.getElem?_cons_zero, List.getElem?_cons_succ]; rfl)
        case y5 => exact Or.inl ⟨by rfl, by (intro W hSw; (try dsimp only at hSw); go_simp)⟩
        simp only [Act.put, List.setIfInBounds_toArray, List.set_cons_zero, List.set_cons_succ]
        refine wpAnyH_take (i := 6) (oi := ?o6) (v := .int .i64 (l.length : Int)) ?h6 (by kernel_rfl) (by kernel_rfl) (by kernel_rfl) (fun _ _ _ h => h) ?y6 (by assumption) ?r6
        case h6 => (simp only [List.getElem?_toArray, List.getElem?_cons_zero, List.getElem?_cons_succ]; rfl)
        case y6 => exact Or.inl ⟨by rfl, by (intro W hSw; (try dsimp only at hSw); go_simp)⟩
        simp only [Act.put, List.setIfInBounds_toArray, List.set_cons_zero, List.set_cons_succ]
        refine wpAnyH_take (i := 7) (oi := ?o7) (v := .int .i64 (m + (l.length : Int))) ?h7 (by kernel_rfl) (by kernel_rfl) (by kernel_rfl) (fun _ _ _ h => h) ?y7 (by assumption) ?r7
        case h7 => (simp only [List.getElem?_toArray, List.getElem?_cons_zero, List.getElem?_cons_succ]; rfl)
        case y7 => exact Or.inl ⟨by rfl, by (intro W hSw; (try dsimp only at hSw); go_simp)⟩
        simp only [Act.put, List.setIfInBounds_toArray, List.set_cons_zero, List.set_cons_succ]
        refine wpAnyH_take (i := 9) (oi := ?o9) (v := .int .i64 E1) ?h9 (by kernel_rfl) (by kernel_rfl) (by kernel_rfl) (fun _ _ _ h => h) ?y9 (by assumption) ?r9
        case h9 => (simp only [List.getElem?_toArray, List.getElem?_cons_zero, List.getElem?_cons_succ]; rfl)
        case y9 => exact Or.inl ⟨by rfl, by (intro W hSw; (try dsimp only at hSw); go_simp)⟩
        simp only [Act.put, List.setIfInBounds_toArray, List.set_cons_zero, List.set_cons_succ]
        clear hHeld
        have od : Old W3 W3.drew := (Old.re W3).dr
        refine wpAnyH_ready (rs := [8]) (by kernel_rfl) (by simp) ?_
        refine AllReadyH.cons rfl (fun K hK => ?_) AllReadyH.nil
        go_simp
        have HT := rtold_any x m false E1 (m + (l.length : Int)) W3.drew
        generalize hM2 : tM m E1 (m + (l.length : Int)) = M2 at *
        generalize hD2 : tD false E1 = D2 at *
        refine HT.mono ?_
        rintro e w7 ⟨rfl, o7⟩
        have o7 := od.tr o7
        have b1 := b1.old o7
        have b2 := b2.old o7
        have b3 := b3.old o7
        have b4 := b4.old o7
        have o := o.tr o7
        have hf := HFL1.out.old o7
        refine hK.out _ _ ⟨b1.at_ 0 rfl, b1.at_ 1 rfl, b1.at_ 2 rfl, b1.at_ 3 rfl, b1.at_ 4 rfl, b2.at_ 0 rfl, b2.at_ 1 rfl, b2.at_ 2 rfl⟩ (fun _ => ?_)
        clear hK HT hC od
        have d0 : w7.cell? ⟨w.heap.size + 1 + 1, 0, none⟩ = some (.int .i64 0) := b3.at_ 0 rfl
        have d1 : w7.cell? ⟨w.heap.size + 1 + 1, 1, none⟩ = some (.slice none 0 0) := b3.at_ 1 rfl
        have d2 : w7.cell? ⟨w.heap.size + 1 + 1, 2, none⟩ = some (.bool false) := b3.at_ 2 rfl
        have d3 : w7.cell? ⟨w.heap.size + 1 + 1, 3, none⟩ = some (.int .i64 0) := b3.at_ 3 rfl
        have d4 : w7.cell? ⟨w.heap.size + 1 + 1, 4, none⟩ = some (.int .i64 0) := b3.at_ 4 rfl
        have df0 := b3.fr 0
        have df1 := b3.fr 1
        have df2 := b3.fr 2
        have df3 := b3.fr 3
        have df4 := b3.fr 4
        have q1 := bfar5 b1 (Ne.symm n31) (.int .i64 (cap1 : Int)) (.slice A1 F1.length c1) (.bool (!up1)) (.int .i64 (left1 : Int)) (.int .i64 keep1)
        have q2 := bfar5 b2 (Ne.symm n32) (.int .i64 (cap1 : Int)) (.slice A1 F1.length c1) (.bool (!up1)) (.int .i64 (left1 : Int)) (.int .i64 keep1)
        have q3 := bk5 b3 (.int .i64 (cap1 : Int)) (.slice A1 F1.length c1) (.bool (!up1)) (.int .i64 (left1 : Int)) (.int .i64 keep1)
        have q4 := bfar5 b4 n43 (.int .i64 (cap1 : Int)) (.slice A1 F1.length c1) (.bool (!up1)) (.int .i64 (left1 : Int)) (.int .i64 keep1)
        have qo := old5 o le3 (.int .i64 (cap1 : Int)) (.slice A1 F1.length c1) (.bool (!up1)) (.int .i64 (left1 : Int)) (.int .i64 keep1)
        have qf := hf.far5 b3 (by decide) (.int .i64 (cap1 : Int)) (.slice A1 F1.length c1) (.bool (!up1)) (.int .i64 (left1 : Int)) (.int .i64 keep1)
        refine wpAnyH_ready (rs := [10]) (by kernel_rfl) (by simp) ?_
        refine AllReadyH.cons rfl (fun K hK => ?_) AllReadyH.nil
        go_simp
        refine hK.out _ _ ⟨q1.at_ 0 rfl, q1.at_ 1 rfl, q1.at_ 2 rfl, q1.at_ 3 rfl, q1.at_ 4 rfl, q2.at_ 0 rfl, q2.at_ 1 rfl, q2.at_ 2 rfl⟩ (fun _ => ?_)
        clear hK b1 b2 b3 b4 o hf d0 d1 d2 d3 d4 df0 df1 df2 df3 df4
        generalize (((((w7.setCell ⟨w.heap.size + 1 + 1, 0, none⟩ (.int .i64 (cap1 : Int))).setCell ⟨w.heap.size + 1 + 1, 1, none⟩ (.slice A1 F1.length c1)).setCell ⟨w.heap.size + 1 + 1, 2, none⟩ (.bool (!up1))).setCell ⟨w.heap.size + 1 + 1, 3, none⟩ (.int .i64 (left1 : Int))).setCell ⟨w.heap.size + 1 + 1, 4, none⟩ (.int .i64 keep1)) = W5 at *
        have g0 : W5.cell? ⟨w.heap.size + 1 + 1 + 1, 0, none⟩ = some (.string { data := #[] }) := q4.at_ 0 rfl
        have g1 : W5.cell? ⟨w.heap.size + 1 + 1 + 1, 1, none⟩ = some (.int .i64 0) := q4.at_ 1 rfl
        have g2 : W5.cell? ⟨w.heap.size + 1 + 1 + 1, 2, none⟩ = some (.bool false) := q4.at_ 2 rfl
        have gf0 := q4.fr 0
        have gf1 := q4.fr 1
        have gf2 := q4.fr 2
        have r1 := bfar3 q1 (Ne.symm n41) (.string (B x)) (.int .i64 M2) (.bool D2)
        have r2 := bfar3 q2 (Ne.symm n42) (.string (B x)) (.int .i64 M2) (.bool D2)
        have r3 := bfar3 q3 n34 (.string (B x)) (.int .i64 M2) (.bool D2)
        have r4 := bk3 q4 (.string (B x)) (.int .i64 M2) (.bool D2)
        have ro := old3 qo le4 (.string (B x)) (.int .i64 M2) (.bool D2)
        have rf := far3 qf q4 (by decide) (.string (B x)) (.int .i64 M2) (.bool D2)
        refine wpAnyH_ready (rs := [11]) (by kernel_rfl) (by simp) ?_
        refine AllReadyH.cons rfl (fun K hK => ?_) AllReadyH.nil
        go_simp
        refine hK.out _ _ ⟨r1.at_ 0 rfl, r1.at_ 1 rfl, r1.at_ 2 rfl, r1.at_ 3 rfl, r1.at_ 4 rfl, r2.at_ 0 rfl, r2.at_ 1 rfl, r2.at_ 2 rfl⟩ (fun _ => ?_)
        clear hK q1 q2 q3 q4 qo qf g0 g1 g2 gf0 gf1 gf2
        generalize (((W5.setCell ⟨w.heap.size + 1 + 1 + 1, 0, none⟩ (.string (B x))).setCell ⟨w.heap.size + 1 + 1 + 1, 1, none⟩ (.int .i64 M2)).setCell ⟨w.heap.size + 1 + 1 + 1, 2, none⟩ (.bool D2)) = W6 at *
        refine wpAnyH_ready (rs := [12]) (by kernel_rfl) (by simp) ?_
        refine AllReadyH.cons rfl (fun K hK => ?_) AllReadyH.nil
        go_simp
        refine hK.out _ _ ⟨r1.at_ 0 rfl, r1.at_ 1 rfl, r1.at_ 2 rfl, r1.at_ 3 rfl, r1.at_ 4 rfl, r2.at_ 0 rfl, r2.at_ 1 rfl, r2.at_ 2 rfl⟩ (fun _ => ?_)
        clear hK
        refine wpAnyH_done (by kernel_rfl) ?_ _
        refine NoPanic.normal ?_
        have z0 : W6.cell? ⟨w.heap.size + 1 + 1, 0, none⟩ = some (.int .i64 (cap1 : Int)) := r3.at_ 0 rfl
        have z1 : W6.cell? ⟨w.heap.size + 1 + 1, 1, none⟩ = some (.slice A1 F1.length c1) := r3.at_ 1 rfl
        have z2 : W6.cell? ⟨w.heap.size + 1 + 1, 2, none⟩ = some (.bool (!up1)) := r3.at_ 2 rfl
        have z3 : W6.cell? ⟨w.heap.size + 1 + 1, 3, none⟩ = some (.int .i64 (left1 : Int)) := r3.at_ 3 rfl
        have z4 : W6.cell? ⟨w.heap.size + 1 + 1, 4, none⟩ = some (.int .i64 keep1) := r3.at_ 4 rfl
        have u0 : W6.cell? ⟨w.heap.size + 1 + 1 + 1, 0, none⟩ = some (.string (B x)) := r4.at_ 0 rfl
        have u1 : W6.cell? ⟨w.heap.size + 1 + 1 + 1, 1, none⟩ = some (.int .i64 M2) := r4.at_ 1 rfl
        have u2 : W6.cell? ⟨w.heap.size + 1 + 1 + 1, 2, none⟩ = some (.bool D2) := r4.at_ 2 rfl
        go_wp2
        refine bodyPost_ret (v := .tuple #[Rv (.slice A1 F1.length c1) ⟨cap1, F1, up1, left1, keep1⟩, Rlv x M2 D2, .int .i64 E1]) (by simp [results, Tryd.results15, go_sem, z0, z1, z2, z3, z4, u0, u1, u2]) rfl ?_
        rw [HX.out]
        exact ⟨_, _, rfl, rf, ro⟩
      obtain rfl : E1 = 0 := by simpa using he
      clear he
      rw [rthen_yes] at HRT
      have HC := rsync_any A1 c1 ⟨cap1, F1, up1, left1, keep1⟩ x HG1.fin HG1.left HG1.two.nd W3 HFL1.out
      obtain ⟨R2, hR2⟩ : ∃ R2, R2 = rsync ⟨cap1, F1, up1, left1, keep1⟩ x := ⟨_, rfl⟩
      rw [← hR2] at HC HRT
      have HC := Lib.hid HC
      clear hR2 HG1
      have y0 : W3.cell? ⟨w.heap.size, 0, none⟩ = some (.int .i64 (cap1 : Int)) := b1.at_ 0 rfl
      have y1 : W3.cell? ⟨w.heap.size, 1, none⟩ = some (.slice A1 F1.length c1) := b1.at_ 1 rfl
      have y2 : W3.cell? ⟨w.heap.size, 2, none⟩ = some (.bool (!up1)) := b1.at_ 2 rfl
      have y3 : W3.cell? ⟨w.heap.size, 3, none⟩ = some (.int .i64 (left1 : Int)) := b1.at_ 3 rfl
      have y4 : W3.cell? ⟨w.heap.size, 4, none⟩ = some (.int .i64 keep1) := b1.at_ 4 rfl
      have v0 : W3.cell? ⟨w.heap.size + 1, 0, none⟩ = some (.string (B x)) := b2.at_ 0 rfl
      have v1 : W3.cell? ⟨w.heap.size + 1, 1, none⟩ = some (.int .i64 m) := b2.at_ 1 rfl
      have v2 : W3.cell? ⟨w.heap.size + 1, 2, none⟩ = some (.bool false) := b2.at_ 2 rfl
      go_wp2_with fail
      refine HC.out.mono ?_
      clear HC HFL1
      rintro e w4 ⟨A2, c2, rfl, hf, o1⟩
      have o := o.tr o1
      have b1 := b1.old o1
      have b2 := b2.old o1
      have b3 := b3.old o1
      have b4 := b4.old o1
      clear o1 y0 y1 y2 y3 y4 v0 v1 v2
      obtain ⟨⟨cap2, F2, up2, left2, keep2⟩, E2⟩ := R2
      simp only at hf
      have y0 : w4.cell? ⟨w.heap.size, 0, none⟩ = some (.int .i64 (cap1 : Int)) := b1.at_ 0 rfl
      have y1 : w4.cell? ⟨w.heap.size, 1, none⟩ = some (.slice A1 F1.length c1) := b1.at_ 1 rfl
      have y2 : w4.cell? ⟨w.heap.size, 2, none⟩ = some (.bool (!up1)) := b1.at_ 2 rfl
      have y3 : w4.cell? ⟨w.heap.size, 3, none⟩ = some (.int .i64 (left1 : Int)) := b1.at_ 3 rfl
      have y4 : w4.cell? ⟨w.heap.size, 4, none⟩ = some (.int .i64 keep1) := b1.at_ 4 rfl
      have yf0 := b1.fr 0
      have yf1 := b1.fr 1
      have yf2 := b1.fr 2
      have yf3 := b1.fr 3
      have yf4 := b1.fr 4
      have HH := Lib.hid (show _ ∧ _ ∧ _ ∧ _ ∧ _ ∧ _ from ⟨(((((o.st (p := ⟨w.heap.size, 0, none⟩) (Nat.le_refl _) (.int .i64 (cap2 : Int))).st (p := ⟨w.heap.size, 1, none⟩) (Nat.le_refl _) (.slice A2 F2.length c2)).st (p := ⟨w.heap.size, 2, none⟩) (Nat.le_refl _) (.bool (!up2))).st (p := ⟨w.heap.size, 3, none⟩) (Nat.le_refl _) (.int .i64 (left2 : Int))).st (p := ⟨w.heap.size, 4, none⟩) (Nat.le_refl _) (.int .i64 keep2)), (bk5 b1 (.int .i64 (cap2 : Int)) (.slice A2 F2.length c2) (.bool (!up2)) (.int .i64 (left2 : Int)) (.int .i64 keep2)), bfar5 b2 n21 (.int .i64 (cap2 : Int)) (.slice A2 F2.length c2) (.bool (!up2)) (.int .i64 (left2 : Int)) (.int .i64 keep2), bfar5 b3 n31 (.int .i64 (cap2 : Int)) (.slice A2 F2.length c2) (.bool (!up2)) (.int .i64 (left2 : Int)) (.int .i64 keep2), bfar5 b4 n41 (.int .i64 (cap2 : Int)) (.slice A2 F2.length c2) (.bool (!up2)) (.int .i64 (left2 : Int)) (.int .i64 keep2), hf.far5 b1 (by decide) (.int .i64 (cap2 : Int)) (.slice A2 F2.length c2) (.bool (!up2)) (.int .i64 (left2 : Int)) (.int .i64 keep2)⟩)
      clear o b1 b2 b3 b4 hf
      go_upto_region 9 with (fail)
      obtain ⟨o, b1, b2, b3, b4, hf⟩ := HH.out
      clear HH y0 y1 y2 y3 y4 yf0 yf1 yf2 yf3 yf4
      generalize (((((w4.setCell ⟨w.heap.size, 0, none⟩ (.int .i64 (cap2 : Int))).setCell ⟨w.heap.size, 1, none⟩ (.slice A2 F2.length c2)).setCell ⟨w.heap.size, 2, none⟩ (.bool (!up2))).setCell ⟨w.heap.size, 3, none⟩ (.int .i64 (left2 : Int))).setCell ⟨w.heap.size, 4, none⟩ (.int .i64 keep2)) = W4 at *
      have HFL2 := Lib.hid hf
      clear hf
      have HX := Lib.hid (show R = ⟨⟨cap2, F2, up2, left2, keep2⟩, tM m E2 (m + l.length), tD false E2, E2⟩ by rw [HR1.out, HRT.out])
      clear HR1 HRT
      have hC : W4.drew.cell? ⟨w.heap.size, 0, none⟩ = some (.int .i64 (cap2 : Int)) ∧ W4.drew.cell? ⟨w.heap.size, 1, none⟩ = some (.slice A2 F2.length c2) ∧ W4.drew.cell? ⟨w.heap.size, 2, none⟩ = some (.bool (!up2)) ∧ W4.drew.cell? ⟨w.heap.size, 3, none⟩ = some (.int .i64 (left2 : Int)) ∧ W4.drew.cell? ⟨w.heap.size, 4, none⟩ = some (.int .i64 keep2) ∧ W4.drew.cell? ⟨w.heap.size + 1, 0, none⟩ = some (.string (B x)) ∧ W4.drew.cell? ⟨w.heap.size + 1, 1, none⟩ = some (.int .i64 m) ∧ W4.drew.cell? ⟨w.heap.size + 1, 2, none⟩ = some (.bool false) := ⟨b1.at_ 0 rfl, b1.at_ 1 rfl, b1.at_ 2 rfl, b1.at_ 3 rfl, b1.at_ 4 rfl, b2.at_ 0 rfl, b2.at_ 1 rfl, b2.at_ 2 rfl⟩
      refine wp_region_noPanic ?_
      refine wp_region_held_drew (S := fun V => V.cell? ⟨w.heap.size, 0, none⟩ = some (.int .i64 (cap2 : Int)) ∧ V.cell? ⟨w.heap.size, 1, none⟩ = some (.slice A2 F2.length c2) ∧ V.cell? ⟨w.heap.size, 2, none⟩ = some (.bool (!up2)) ∧ V.cell? ⟨w.heap.size, 3, none⟩ = some (.int .i64 (left2 : Int)) ∧ V.cell? ⟨w.heap.size, 4, none⟩ = some (.int .i64 keep2) ∧ V.cell? ⟨w.heap.size + 1, 0, none⟩ = some (.string (B x)) ∧ V.cell? ⟨w.heap.size + 1, 1, none⟩ = some (.int .i64 m) ∧ V.cell? ⟨w.heap.size + 1, 2, none⟩ = some (.bool false)) (by kernel_rfl) hC (fun hHeld => ?_)
      refine wpAnyH_take (i := 0) (oi := ?o100) (v := .agg #[.int .i64 (cap2 : Int), .slice A2 F2.length c2, .bool (!up2), .int .i64 (left2 : Int), .int .i64 keep2]) ?h100 (by kernel_rfl) (by kernel_rfl) (by kernel_rfl) (fun _ _ _ h => h) ?y100 (by assumption) ?r100
      case h100 => (simp only [List.getElem?_toArray, List.getElem?_cons_zero]; rfl)
      case y100 => exact Or.inl ⟨by rfl, by (intro W hSw; (try dsimp only at hSw); go_simp)⟩
      simp only [Act.put, List.setIfInBounds_toArray, List.set_cons_zero, List.set_cons_succ]
      refine wpAnyH_take (i := 1) (oi := ?o101) (v := .agg #[.string (B x), .int .i64 m, .bool false]) ?h101 (by kernel_rfl) (by kernel_rfl) (by kernel_rfl) (fun _ _ _ h => h) ?y101 (by assumption) ?r101
      case h101 => (simp only [List.getElem?_toArray, List.getElem?_cons_zero, List.getElem?_cons_succ]; rfl)
      case y101 => exact Or.inl ⟨by rfl, by (intro W hSw; (try dsimp only at hSw); go_simp)⟩
      simp only [Act.put, List.setIfInBounds_toArray, List.set_cons_zero, List.set_cons_succ]
      refine wpAnyH_take (i := 2) (oi := ?o102) (v := .int .i64 E2) ?h102 (by kernel_rfl) (by kernel_rfl) (by kernel_rfl) (fun _ _ _ h => h) ?y102 (by assumption) ?r102
      case h102 => (simp only [List.getElem?_toArray, List.getElem?_cons_zero, List.getElem?_cons_succ]; rfl)
      case y102 => exact Or.inl ⟨by rfl, by (intro W hSw; (try dsimp only at hSw); go_simp)⟩
      simp only [Act.put, List.setIfInBounds_toArray, List.set_cons_zero, List.set_cons_succ]
      refine wpAnyH_take (i := 3) (oi := ?o103) (v := .pointer (some ⟨w.heap.size + 1, 1, none⟩)) ?h103 (by kernel_rfl) (by kernel_rfl) (by kernel_rfl) (fun _ _ _ h => h) ?y103 (by assumption) ?r103
      case h103 => (simp only [List.getElem?_toArray, List.getElem?_cons_zero, List.getElem?_cons_succ]; rfl)
      case y103 => exact Or.inl ⟨by rfl, by (intro W hSw; (try dsimp only at hSw); go_simp)⟩
      simp only [Act.put, List.setIfInBounds_toArray, List.set_cons_zero, List.set_cons_succ]
      refine wpAnyH_take (i := 4) (oi := ?o104) (v := .int .i64 m) ?h104 (by kernel_rfl) (by kernel_rfl) (by kernel_rfl) (fun _ _ _ h => h) ?y104 (by assumption) ?r104
      case h104 => (simp only [List.getElem?_toArray, List.getElem?_cons_zero, List.getElem?_cons_succ]; rfl)
      case y104 => exact Or.inl ⟨by rfl, by (intro W hSw; (try dsimp only at hSw); go_simp)⟩
      simp only [Act.put, List.setIfInBounds_toArray, List.set_cons_zero, List.set_cons_succ]
      refine wpAnyH_take (i := 5) (oi := ?o105) (v := .slice Al l.length cl) ?h105 (by kernel_rfl) (by kernel_rfl) (by kernel_rfl) (fun _ _ _ h => h) ?y105 (by assumption) ?r105
      case h105 => (simp only [List.getElem?_toArray, List.getElem?_cons_zero, List.getElem?_cons_succ]; rfl)
      case y105 => exact Or.inl ⟨by rfl, by (intro W hSw; (try dsimp only at hSw); go_simp)⟩
      simp only [Act.put, List.setIfInBounds_toArray, List.set_cons_zero, List.set_cons_succ]
      refine wpAnyH_take (i := 6) (oi := ?o106) (v := .int .i64 (l.length : Int)) ?h106 (by kernel_rfl) (by kernel_rfl) (by kernel_rfl) (fun _ _ _ h => h) ?y106 (by assumption) ?r106
      case h106 => (simp only [List.getElem?_toArray, List.getElem?_cons_zero, List.getElem?_cons_succ]; rfl)
      case y106 => exact Or.inl ⟨by rfl, by (intro W hSw; (try dsimp only at hSw); go_simp)⟩
      simp only [Act.put, List.setIfInBounds_toArray, List.set_cons_zero, List.set_cons_succ]
      refine wpAnyH_take (i := 7) (oi := ?o107) (v := .int .i64 (m + (l.length : Int))) ?h107 (by kernel_rfl) (by kernel_rfl) (by kernel_rfl) (fun _ _ _ h => h) ?y107 (by assumption) ?r107
      case h107 => (simp only [List.getElem?_toArray, List.getElem?_cons_zero, List.getElem?_cons_succ]; rfl)
      case y107 => exact Or.inl ⟨by rfl, by (intro W hSw; (try dsimp only at hSw); go_simp)⟩
      simp only [Act.put, List.setIfInBounds_toArray, List.set_cons_zero, List.set_cons_succ]
      refine wpAnyH_take (i := 9) (oi := ?o109) (v := .int .i64 E2) ?h109 (by kernel_rfl) (by kernel_rfl) (by kernel_rfl) (fun _ _ _ h => h) ?y109 (by assumption) ?r109
      case h109 => (simp only [List.getElem?_toArray, List.getElem?_cons_zero, List.getElem?_cons_succ]; rfl)
      case y109 => exact Or.inl ⟨by rfl, by (intro W hSw; (try dsimp only at hSw); go_simp)⟩
      simp only [Act.put, List.setIfInBounds_toArray, List.set_cons_zero, List.set_cons_succ]
      clear hHeld
      have od : Old W4 W4.drew := (Old.re W4).dr
      refine wpAnyH_ready (rs := [8]) (by kernel_rfl) (by simp) ?_
      refine AllReadyH.cons rfl (fun K hK => ?_) AllReadyH.nil
      go_simp
      have HT := rtold_any x m false E2 (m + (l.length : Int)) W4.drew
      generalize hM2 : tM m E2 (m + (l.length : Int)) = M2 at *
      generalize hD2 : tD false E2 = D2 at *
      refine HT.mono ?_
      rintro e w7 ⟨rfl, o7⟩
      have o7 := od.tr o7
      have b1 := b1.old o7
      have b2 := b2.old o7
      have b3 := b3.old o7
      have b4 := b4.old o7
      have o := o.tr o7
      have hf := HFL2.out.old o7
      refine hK.out _ _ ⟨b1.at_ 0 rfl, b1.at_ 1 rfl, b1.at_ 2 rfl, b1.at_ 3 rfl, b1.at_ 4 rfl, b2.at_ 0 rfl, b2.at_ 1 rfl, b2.at_ 2 rfl⟩ (fun _ => ?_)
      clear hK HT hC od
      have d0 : w7.cell? ⟨w.heap.size + 1 + 1, 0, none⟩ = some (.int .i64 0) := b3.at_ 0 rfl
      have d1 : w7.cell? ⟨w.heap.size + 1 + 1, 1, none⟩ = some (.slice none 0 0) := b3.at_ 1 rfl
      have d2 : w7.cell? ⟨w.heap.size + 1 + 1, 2, none⟩ = some (.bool false) := b3.at_ 2 rfl
      have d3 : w7.cell? ⟨w.heap.size + 1 + 1, 3, none⟩ = some (.int .i64 0) := b3.at_ 3 rfl
      have d4 : w7.cell? ⟨w.heap.size + 1 + 1, 4, none⟩ = some (.int .i64 0) := b3.at_ 4 rfl
      have df0 := b3.fr 0
      have df1 := b3.fr 1
      have df2 := b3.fr 2
      have df3 := b3.fr 3
      have df4 := b3.fr 4
      have q1 := bfar5 b1 (Ne.symm n31) (.int .i64 (cap2 : Int)) (.slice A2 F2.length c2) (.bool (!up2)) (.int .i64 (left2 : Int)) (.int .i64 keep2)
      have q2 := bfar5 b2 (Ne.symm n32) (.int .i64 (cap2 : Int)) (.slice A2 F2.length c2) (.bool (!up2)) (.int .i64 (left2 : Int)) (.int .i64 keep2)
      have q3 := bk5 b3 (.int .i64 (cap2 : Int)) (.slice A2 F2.length c2) (.bool (!up2)) (.int .i64 (left2 : Int)) (.int .i64 keep2)
      have q4 := bfar5 b4 n43 (.int .i64 (cap2 : Int)) (.slice A2 F2.length c2) (.bool (!up2)) (.int .i64 (left2 : Int)) (.int .i64 keep2)
      have qo := old5 o le3 (.int .i64 (cap2 : Int)) (.slice A2 F2.length c2) (.bool (!up2)) (.int .i64 (left2 : Int)) (.int .i64 keep2)
      have qf := hf.far5 b3 (by decide) (.int .i64 (cap2 : Int)) (.slice A2 F2.length c2) (.bool (!up2)) (.int .i64 (left2 : Int)) (.int .i64 keep2)
      refine wpAnyH_ready (rs := [10]) (by kernel_rfl) (by simp) ?_
      refine AllReadyH.cons rfl (fun K hK => ?_) AllReadyH.nil
      go_simp
      refine hK.out _ _ ⟨q1.at_ 0 rfl, q1.at_ 1 rfl, q1.at_ 2 rfl, q1.at_ 3 rfl, q1.at_ 4 rfl, q2.at_ 0 rfl, q2.at_ 1 rfl, q2.at_ 2 rfl⟩ (fun _ => ?_)
      clear hK b1 b2 b3 b4 o hf d0 d1 d2 d3 d4 df0 df1 df2 df3 df4
      generalize (((((w7.setCell ⟨w.heap.size + 1 + 1, 0, none⟩ (.int .i64 (cap2 : Int))).setCell ⟨w.heap.size + 1 + 1, 1, none⟩ (.slice A2 F2.length c2)).setCell ⟨w.heap.size + 1 + 1, 2, none⟩ (.bool (!up2))).setCell ⟨w.heap.size + 1 + 1, 3, none⟩ (.int .i64 (left2 : Int))).setCell ⟨w.heap.size + 1 + 1, 4, none⟩ (.int .i64 keep2)) = W5 at *
      have g0 : W5.cell? ⟨w.heap.size + 1 + 1 + 1, 0, none⟩ = some (.string { data := #[] }) := q4.at_ 0 rfl
      have g1 : W5.cell? ⟨w.heap.size + 1 + 1 + 1, 1, none⟩ = some (.int .i64 0) := q4.at_ 1 rfl
      have g2 : W5.cell? ⟨w.heap.size + 1 + 1 + 1, 2, none⟩ = some (.bool false) := q4.at_ 2 rfl
      have gf0 := q4.fr 0
      have gf1 := q4.fr 1
      have gf2 := q4.fr 2
      have r1 := bfar3 q1 (Ne.symm n41) (.string (B x)) (.int .i64 M2) (.bool D2)
      have r2 := bfar3 q2 (Ne.symm n42) (.string (B x)) (.int .i64 M2) (.bool D2)
      have r3 := bfar3 q3 n34 (.string (B x)) (.int .i64 M2) (.bool D2)
      have r4 := bk3 q4 (.string (B x)) (.int .i64 M2) (.bool D2)
      have ro := old3 qo le4 (.string (B x)) (.int .i64 M2) (.bool D2)
      have rf := far3 qf q4 (by decide) (.string (B x)) (.int .i64 M2) (.bool D2)
      refine wpAnyH_ready (rs := [11]) (by kernel_rfl) (by simp) ?_
      refine AllReadyH.cons rfl (fun K hK => ?_) AllReadyH.nil
      go_simp
      refine hK.out _ _ ⟨r1.at_ 0 rfl, r1.at_ 1 rfl, r1.at_ 2 rfl, r1.at_ 3 rfl, r1.at_ 4 rfl, r2.at_ 0 rfl, r2.at_ 1 rfl, r2.at_ 2 rfl⟩ (fun _ => ?_)
      clear hK q1 q2 q3 q4 qo qf g0 g1 g2 gf0 gf1 gf2
      generalize (((W5.setCell ⟨w.heap.size + 1 + 1 + 1, 0, none⟩ (.string (B x))).setCell ⟨w.heap.size + 1 + 1 + 1, 1, none⟩ (.int .i64 M2)).setCell ⟨w.heap.size + 1 + 1 + 1, 2, none⟩ (.bool D2)) = W6 at *
      refine wpAnyH_ready (rs := [12]) (by kernel_rfl) (by simp) ?_
      refine AllReadyH.cons rfl (fun K hK => ?_) AllReadyH.nil
      go_simp
      refine hK.out _ _ ⟨r1.at_ 0 rfl, r1.at_ 1 rfl, r1.at_ 2 rfl, r1.at_ 3 rfl, r1.at_ 4 rfl, r2.at_ 0 rfl, r2.at_ 1 rfl, r2.at_ 2 rfl⟩ (fun _ => ?_)
      clear hK
      refine wpAnyH_done (by kernel_rfl) ?_ _
      refine NoPanic.normal ?_
      have z0 : W6.cell? ⟨w.heap.size + 1 + 1, 0, none⟩ = some (.int .i64 (cap2 : Int)) := r3.at_ 0 rfl
      have z1 : W6.cell? ⟨w.heap.size + 1 + 1, 1, none⟩ = some (.slice A2 F2.length c2) := r3.at_ 1 rfl
      have z2 : W6.cell? ⟨w.heap.size + 1 + 1, 2, none⟩ = some (.bool (!up2)) := r3.at_ 2 rfl
      have z3 : W6.cell? ⟨w.heap.size + 1 + 1, 3, none⟩ = some (.int .i64 (left2 : Int)) := r3.at_ 3 rfl
      have z4 : W6.cell? ⟨w.heap.size + 1 + 1, 4, none⟩ = some (.int .i64 keep2) := r3.at_ 4 rfl
      have u0 : W6.cell? ⟨w.heap.size + 1 + 1 + 1, 0, none⟩ = some (.string (B x)) := r4.at_ 0 rfl
      have u1 : W6.cell? ⟨w.heap.size + 1 + 1 + 1, 1, none⟩ = some (.int .i64 M2) := r4.at_ 1 rfl
      have u2 : W6.cell? ⟨w.heap.size + 1 + 1 + 1, 2, none⟩ = some (.bool D2) := r4.at_ 2 rfl
      go_wp2
      refine bodyPost_ret (v := .tuple #[Rv (.slice A2 F2.length c2) ⟨cap2, F2, up2, left2, keep2⟩, Rlv x M2 D2, .int .i64 E2]) (by simp [results, Tryd.results15, go_sem, z0, z1, z2, z3, z4, u0, u1, u2]) rfl ?_
      rw [HX.out]
      exact ⟨_, _, rfl, rf, ro⟩
end Go.Proofs.YtilimfbjkgeciaaDoor
