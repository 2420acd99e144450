/-
  Texts in one: RTld RRst. Conditions: as each theorem writes them.
-/
import Derived.Test.YtilimfbjkgeciaaDoorRWrt
namespace Go.Proofs.YtilimfbjkgeciaaDoor
set_option maxRecDepth 100000
open Go.RowKit

/-- The document's own log, as a value. -/
abbrev Rlv (x : List UInt8) (m : Int) (d : Bool) : Value := .agg #[.string (B x), .int .i64 m, .bool d]
abbrev rlc (x : List UInt8) (m : Int) (d : Bool) : Array Value := #[.string (B x), .int .i64 m, .bool d]
abbrev zeroLg : Array Value := #[.string { data := #[] }, .int .i64 0, .bool false]
def tM (m e m' : Int) : Int := if e = 0 then m' else m
def tD (d : Bool) (e : Int) : Bool := if e = 0 ∨ e = 2 then d else true
theorem bk3 {W : World} {g : Nat} {t : TypeId} {u0 u1 u2 : Value} (b : Bk W g t #[u0, u1, u2]) (v0 v1 v2 : Value) :
    Bk (((W.setCell ⟨g, 0, none⟩ v0).setCell ⟨g, 1, none⟩ v1).setCell ⟨g, 2, none⟩ v2) g t #[v0, v1, v2] := ((b.set_ 0 v0).set_ 1 v1).set_ 2 v2
theorem old3 {w W : World} {g : Nat} (o : Old w W) (hg : w.heap.size ≤ g) (v0 v1 v2 : Value) :
    Old w (((W.setCell ⟨g, 0, none⟩ v0).setCell ⟨g, 1, none⟩ v1).setCell ⟨g, 2, none⟩ v2) := ((o.st (p := ⟨g, 0, none⟩) hg v0).st (p := ⟨g, 1, none⟩) hg v1).st (p := ⟨g, 2, none⟩) hg v2
set_option maxHeartbeats 4000000 in
theorem rtold_any (x : List UInt8) (m : Int) (dd : Bool) (e m' : Int) (w : World) :
    Calls Tryd.prog 44 #[Rlv x m dd, .int .i64 e, .int .i64 m'] w fun ev w' => ev = .returned (Rlv x (tM m e m') (tD dd e)) ∧ Old w w' := by
  obtain ⟨M, hM⟩ : ∃ M, M = tM m e m' := ⟨_, rfl⟩
  obtain ⟨D, hD⟩ : ∃ D, D = tD dd e := ⟨_, rfl⟩
  rw [← hM, ← hD]
  have HM := Lib.hid hM
  have HD := Lib.hid hD
  clear hM hD
  have o := (old_alloc w (.cells (rlc x m dd) 36)).al (.cells zeroLg 36)
  have b2 := (new_bk w 36 (rlc x m dd)).old (old_alloc _ (.cells zeroLg 36))
  have b4 := new_bk' (w.alloc (.cells (rlc x m dd) 36)) 36 zeroLg (w.heap.size + 1) (by simp)
  have hn01 : w.heap.size ≠ w.heap.size + 1 := by omega
  have hn10 : w.heap.size + 1 ≠ w.heap.size := by omega
  have HH := Lib.hid (show _ ∧ _ ∧ _ from ⟨o, b2, b4⟩)
  clear o b2 b4
  go_enter Tryd.func44, Tryd.ntmps44
  go_upto_region 1 with (fail)
  obtain ⟨o, b2, b4⟩ := HH.out
  clear HH
  generalize (w.alloc (.cells (rlc x m dd) 36)).alloc (.cells zeroLg 36) = W at *
  have c0 : W.cell? ⟨w.heap.size, 0, none⟩ = some (.string (B x)) := b2.at_ 0 rfl
  have c1 : W.cell? ⟨w.heap.size, 1, none⟩ = some (.int .i64 m) := b2.at_ 1 rfl
  have c2 : W.cell? ⟨w.heap.size, 2, none⟩ = some (.bool dd) := b2.at_ 2 rfl
  have cf1 := b2.fr 1
  have cf2 := b2.fr 2
  have d0 : W.cell? ⟨w.heap.size + 1, 0, none⟩ = some (.string { data := #[] }) := b4.at_ 0 rfl
  have d1 : W.cell? ⟨w.heap.size + 1, 1, none⟩ = some (.int .i64 0) := b4.at_ 1 rfl
  have d2 : W.cell? ⟨w.heap.size + 1, 2, none⟩ = some (.bool false) := b4.at_ 2 rfl
  have df0 := b4.fr 0
  have df1 := b4.fr 1
  have df2 := b4.fr 2
  by_cases h0 : e = 0
  · subst h0
    have HO := Lib.hid (old3 (o.st (p := ⟨w.heap.size, 1, none⟩) (Nat.le_refl _) (.int .i64 m')) (Nat.le_add_right _ 1) (.string (B x)) (.int .i64 m') (.bool dd))
    have HB := Lib.hid (bk3 (b4.far (p := ⟨w.heap.size, 1, none⟩) hn10 (.int .i64 m')) (.string (B x)) (.int .i64 m') (.bool dd))
    clear o b2 b4
    go_wp2
    have h1 := HO.out
    have h2 := HB.out
    clear HO HB
    generalize ((((W.setCell ⟨w.heap.size, 1, none⟩ (.int .i64 m')).setCell ⟨w.heap.size + 1, 0, none⟩ (.string (B x))).setCell ⟨w.heap.size + 1, 1, none⟩ (.int .i64 m')).setCell ⟨w.heap.size + 1, 2, none⟩ (.bool dd)) = WF at *
    have z0 : WF.cell? ⟨w.heap.size + 1, 0, none⟩ = some (.string (B x)) := h2.at_ 0 rfl
    have z1 : WF.cell? ⟨w.heap.size + 1, 1, none⟩ = some (.int .i64 m') := h2.at_ 1 rfl
    have z2 : WF.cell? ⟨w.heap.size + 1, 2, none⟩ = some (.bool dd) := h2.at_ 2 rfl
    refine bodyPost_ret (v := Rlv x m' dd) (by simp [results, Tryd.results44, go_sem, z0, z1, z2]) rfl ?_
    rw [HM.out, HD.out]
    exact ⟨by simp [tM, tD], h1⟩
  by_cases h2e : e = 2
  · subst h2e
    have HO := Lib.hid (old3 o (Nat.le_add_right _ 1) (.string (B x)) (.int .i64 m) (.bool dd))
    have HB := Lib.hid (bk3 b4 (.string (B x)) (.int .i64 m) (.bool dd))
    clear o b2 b4
    go_wp2
    have h1 := HO.out
    have h2 := HB.out
    clear HO HB
    generalize (((W.setCell ⟨w.heap.size + 1, 0, none⟩ (.string (B x))).setCell ⟨w.heap.size + 1, 1, none⟩ (.int .i64 m)).setCell ⟨w.heap.size + 1, 2, none⟩ (.bool dd)) = WF at *
    have z0 : WF.cell? ⟨w.heap.size + 1, 0, none⟩ = some (.string (B x)) := h2.at_ 0 rfl
    have z1 : WF.cell? ⟨w.heap.size + 1, 1, none⟩ = some (.int .i64 m) := h2.at_ 1 rfl
    have z2 : WF.cell? ⟨w.heap.size + 1, 2, none⟩ = some (.bool dd) := h2.at_ 2 rfl
    refine bodyPost_ret (v := Rlv x m dd) (by simp [results, Tryd.results44, go_sem, z0, z1, z2]) rfl ?_
    rw [HM.out, HD.out]
    exact ⟨by simp [tM, tD], h1⟩
  have hb0 : (e == 0) = false := by simpa using h0
  have hb2 : (e == 2) = false := by simpa using h2e
  have HO := Lib.hid (old3 (o.st (p := ⟨w.heap.size, 2, none⟩) (Nat.le_refl _) (.bool true)) (Nat.le_add_right _ 1) (.string (B x)) (.int .i64 m) (.bool true))
  have HB := Lib.hid (bk3 (b4.far (p := ⟨w.heap.size, 2, none⟩) hn10 (.bool true)) (.string (B x)) (.int .i64 m) (.bool true))
  clear o b2 b4
  go_wp2
  have h1 := HO.out
  have h2 := HB.out
  clear HO HB
  generalize ((((W.setCell ⟨w.heap.size, 2, none⟩ (.bool true)).setCell ⟨w.heap.size + 1, 0, none⟩ (.string (B x))).setCell ⟨w.heap.size + 1, 1, none⟩ (.int .i64 m)).setCell ⟨w.heap.size + 1, 2, none⟩ (.bool true)) = WF at *
  have z0 : WF.cell? ⟨w.heap.size + 1, 0, none⟩ = some (.string (B x)) := h2.at_ 0 rfl
  have z1 : WF.cell? ⟨w.heap.size + 1, 1, none⟩ = some (.int .i64 m) := h2.at_ 1 rfl
  have z2 : WF.cell? ⟨w.heap.size + 1, 2, none⟩ = some (.bool true) := h2.at_ 2 rfl
  refine bodyPost_ret (v := Rlv x m true) (by simp [results, Tryd.results44, go_sem, z0, z1, z2]) rfl ?_
  rw [HM.out, HD.out]
  exact ⟨by simp [tM, tD, h0, h2e], h1⟩
end Go.Proofs.YtilimfbjkgeciaaDoor

namespace Go.Proofs.YtilimfbjkgeciaaDoor
set_option maxRecDepth 100000
open Go.RowKit

/-- A log of the document's own behind a call: its disk, how many texts, off, what was answered. -/
structure Rl where
  r : Pd
  m : Int
  d : Bool
  e : Int
def PostRL (x : List UInt8) (w : World) (q : Rl) (ev : Ending) (w' : World) : Prop :=
  ∃ A c, ev = .returned (.tuple #[Rv (.slice A q.r.files.length c) q.r, Rlv x q.m q.d, .int .i64 q.e]) ∧ Flt w' (.slice A q.r.files.length c) q.r.files ∧ Old w w'
def rchange (g : List UInt8 → Pd → Pd × Int) (r : Pd) (m : Int) (dd : Bool) (l : List (List UInt8)) (now : Int) : Rl :=
  if dd = true then ⟨r, m, dd, 6⟩ else if l.any wideT = true then ⟨r, m, dd, 71⟩ else ⟨(g (jS l) r).1, tM m (g (jS l) r).2 now, tD dd (g (jS l) r).2, (g (jS l) r).2⟩
theorem bfar3 {w : World} {g g' : Nat} {t : TypeId} {cs : Array Value} (h : Bk w g t cs) (hne : g ≠ g') (v0 v1 v2 : Value) :
    Bk (((w.setCell ⟨g', 0, none⟩ v0).setCell ⟨g', 1, none⟩ v1).setCell ⟨g', 2, none⟩ v2) g t cs :=
  ((h.far (p := ⟨g', 0, none⟩) hne v0).far (p := ⟨g', 1, none⟩) hne v1).far (p := ⟨g', 2, none⟩) hne v2
theorem far3 {w : World} {v : Value} {L : List Pf} (h : Flt w v L) {g : Nat} {t : TypeId} {u0 u1 u2 : Value} (b : Bk w g t #[u0, u1, u2]) (ht : t ≠ 83) (v0 v1 v2 : Value) :
    Flt (((w.setCell ⟨g, 0, none⟩ v0).setCell ⟨g, 1, none⟩ v1).setCell ⟨g, 2, none⟩ v2) v L :=
  ((h.far b ht 0 v0).far (b.set_ 0 v0) ht 1 v1).far ((b.set_ 0 v0).set_ 1 v1) ht 2 v2
set_option maxHeartbeats 8000000 in
theorem rreset_any (A : Option Addr) (c : Nat) (r : Pd) (x : List UInt8) (m : Int) (dd : Bool) (l : List (List UInt8)) (Al : Option Addr) (cl : Nat) (hG : Good x r) (hx : x.length ≤ 1000) (hml : l.length ≤ 1000) (hsm : ∀ t ∈ l, t.length ≤ 1000000) (w : World) (hS : Strs w Al cl l) (h : Flt w (.slice A r.files.length c) r.files) :
    Calls Tryd.prog 17 #[Rv (.slice A r.files.length c) r, Rlv x m dd, .slice Al l.length cl] w (PostRL x w (rchange (rwrite x) r m dd l l.length)) := by
  obtain ⟨cap, F, up, left, keep⟩ := r
  simp only at h ⊢
  obtain ⟨R, hR⟩ : ∃ R, R = rchange (rwrite x) ⟨cap, F, up, left, keep⟩ m dd l l.length := ⟨_, rfl⟩
  rw [← hR]
  have o0 := (((old_alloc w (.cells #[.int .i64 (cap : Int), .slice A F.length c, .bool (!up), .int .i64 (left : Int), .int .i64 keep] 29)).al (.cells #[.string (B x), .int .i64 m, .bool dd] 36)).al (.cells zeroDsk 29)).al (.cells zeroLg 36)
  have b1 := (((new_bk w 29 #[.int .i64 (cap : Int), .slice A F.length c, .bool (!up), .int .i64 (left : Int), .int .i64 keep]).old (old_alloc _ (.cells #[.string (B x), .int .i64 m, .bool dd] 36))).old (old_alloc _ (.cells zeroDsk 29))).old (old_alloc _ (.cells zeroLg 36))
  have b2 := ((new_bk' (w.alloc (.cells #[.int .i64 (cap : Int), .slice A F.length c, .bool (!up), .int .i64 (left : Int), .int .i64 keep] 29)) 36 #[.string (B x), .int .i64 m, .bool dd] (w.heap.size + 1) (by simp)).old (old_alloc _ (.cells zeroDsk 29))).old (old_alloc _ (.cells zeroLg 36))
  have b3 := (new_bk' ((w.alloc (.cells #[.int .i64 (cap : Int), .slice A F.length c, .bool (!up), .int .i64 (left : Int), .int .i64 keep] 29)).alloc (.cells #[.string (B x), .int .i64 m, .bool dd] 36)) 29 zeroDsk (w.heap.size + 1 + 1) (by simp)).old (old_alloc _ (.cells zeroLg 36))
  have b4 := new_bk' (((w.alloc (.cells #[.int .i64 (cap : Int), .slice A F.length c, .bool (!up), .int .i64 (left : Int), .int .i64 keep] 29)).alloc (.cells #[.string (B x), .int .i64 m, .bool dd] 36)).alloc (.cells zeroDsk 29)) 36 zeroLg (w.heap.size + 1 + 1 + 1) (by simp)
  have HH := Lib.hid (show _ ∧ _ ∧ _ ∧ _ ∧ _ ∧ _ ∧ _ from ⟨o0, b1, b2, b3, b4, h.old o0, hS.old o0⟩)
  have HG := Lib.hid hG
  have HR := Lib.hid hR
  clear hR h hG hS o0 b1 b2 b3 b4
  have n34 : w.heap.size + 1 + 1 ≠ w.heap.size + 1 + 1 + 1 := by omega
  have n43 : w.heap.size + 1 + 1 + 1 ≠ w.heap.size + 1 + 1 := by omega
  have n31 : w.heap.size + 1 + 1 ≠ w.heap.size := by omega
  have n32 : w.heap.size + 1 + 1 ≠ w.heap.size + 1 := by omega
  have n41 : w.heap.size + 1 + 1 + 1 ≠ w.heap.size := by omega
  have n42 : w.heap.size + 1 + 1 + 1 ≠ w.heap.size + 1 := by omega
  have n21 : w.heap.size + 1 ≠ w.heap.size := by omega
  have le3 : w.heap.size ≤ w.heap.size + 1 + 1 := by omega
  have le4 : w.heap.size ≤ w.heap.size + 1 + 1 + 1 := by omega
  go_enter Tryd.func17, Tryd.ntmps17
  go_upto_region 1 with (fail)
  obtain ⟨o, b1, b2, b3, b4, hf, hS⟩ := HH.out
  clear HH
  generalize ((((w.alloc (.cells #[.int .i64 (cap : Int), .slice A F.length c, .bool (!up), .int .i64 (left : Int), .int .i64 keep] 29)).alloc (.cells #[.string (B x), .int .i64 m, .bool dd] 36)).alloc (.cells zeroDsk 29)).alloc (.cells zeroLg 36)) = W at *
  have HFL := Lib.hid hf
  have HSS := Lib.hid hS
  clear hf hS
  cases dd with
  | true =>
    have HX := Lib.hid (show R = ⟨⟨cap, F, up, left, keep⟩, m, true, 6⟩ by rw [HR.out]; unfold rchange; rw [if_pos rfl])
    clear HR HSS HG
    have y0 : W.cell? ⟨w.heap.size, 0, none⟩ = some (.int .i64 (cap : Int)) := b1.at_ 0 rfl
    have y1 : W.cell? ⟨w.heap.size, 1, none⟩ = some (.slice A F.length c) := b1.at_ 1 rfl
    have y2 : W.cell? ⟨w.heap.size, 2, none⟩ = some (.bool (!up)) := b1.at_ 2 rfl
    have y3 : W.cell? ⟨w.heap.size, 3, none⟩ = some (.int .i64 (left : Int)) := b1.at_ 3 rfl
    have y4 : W.cell? ⟨w.heap.size, 4, none⟩ = some (.int .i64 keep) := b1.at_ 4 rfl
    have v0 : W.cell? ⟨w.heap.size + 1, 0, none⟩ = some (.string (B x)) := b2.at_ 0 rfl
    have v1 : W.cell? ⟨w.heap.size + 1, 1, none⟩ = some (.int .i64 m) := b2.at_ 1 rfl
    have v2 : W.cell? ⟨w.heap.size + 1, 2, none⟩ = some (.bool true) := b2.at_ 2 rfl
    have d0 : W.cell? ⟨w.heap.size + 1 + 1, 0, none⟩ = some (.int .i64 0) := b3.at_ 0 rfl
    have d1 : W.cell? ⟨w.heap.size + 1 + 1, 1, none⟩ = some (.slice none 0 0) := b3.at_ 1 rfl
    have d2 : W.cell? ⟨w.heap.size + 1 + 1, 2, none⟩ = some (.bool false) := b3.at_ 2 rfl
    have d3 : W.cell? ⟨w.heap.size + 1 + 1, 3, none⟩ = some (.int .i64 0) := b3.at_ 3 rfl
    have d4 : W.cell? ⟨w.heap.size + 1 + 1, 4, none⟩ = some (.int .i64 0) := b3.at_ 4 rfl
    have df0 := b3.fr 0
    have df1 := b3.fr 1
    have df2 := b3.fr 2
    have df3 := b3.fr 3
    have df4 := b3.fr 4
    have g0 : W.cell? ⟨w.heap.size + 1 + 1 + 1, 0, none⟩ = some (.string { data := #[] }) := b4.at_ 0 rfl
    have g1 : W.cell? ⟨w.heap.size + 1 + 1 + 1, 1, none⟩ = some (.int .i64 0) := b4.at_ 1 rfl
    have g2 : W.cell? ⟨w.heap.size + 1 + 1 + 1, 2, none⟩ = some (.bool false) := b4.at_ 2 rfl
    have gf0 := b4.fr 0
    have gf1 := b4.fr 1
    have gf2 := b4.fr 2
    have p3 := bfar3 (bk5 b3 (.int .i64 (cap : Int)) (.slice A F.length c) (.bool (!up)) (.int .i64 (left : Int)) (.int .i64 keep)) n34 (.string (B x)) (.int .i64 m) (.bool true)
    have p4 := bk3 (bfar5 b4 n43 (.int .i64 (cap : Int)) (.slice A F.length c) (.bool (!up)) (.int .i64 (left : Int)) (.int .i64 keep)) (.string (B x)) (.int .i64 m) (.bool true)
    have po := old3 (old5 o le3 (.int .i64 (cap : Int)) (.slice A F.length c) (.bool (!up)) (.int .i64 (left : Int)) (.int .i64 keep)) le4 (.string (B x)) (.int .i64 m) (.bool true)
    have pf := far3 (HFL.out.far5 b3 (by decide) (.int .i64 (cap : Int)) (.slice A F.length c) (.bool (!up)) (.int .i64 (left : Int)) (.int .i64 keep)) (bfar5 b4 n43 (.int .i64 (cap : Int)) (.slice A F.length c) (.bool (!up)) (.int .i64 (left : Int)) (.int .i64 keep)) (by decide) (.string (B x)) (.int .i64 m) (.bool true)
    have HE := Lib.hid (show _ ∧ _ ∧ _ ∧ _ from ⟨po, p3, p4, pf⟩)
    clear b1 b2 b3 b4 o po p3 p4 pf
    go_wp2_with fail
    go_region
    obtain ⟨po, p3, p4, pf⟩ := HE.out
    generalize ((((((((W.setCell ⟨w.heap.size + 1 + 1, 0, none⟩ (.int .i64 (cap : Int))).setCell ⟨w.heap.size + 1 + 1, 1, none⟩ (.slice A F.length c)).setCell ⟨w.heap.size + 1 + 1, 2, none⟩ (.bool (!up))).setCell ⟨w.heap.size + 1 + 1, 3, none⟩ (.int .i64 (left : Int))).setCell ⟨w.heap.size + 1 + 1, 4, none⟩ (.int .i64 keep)).setCell ⟨w.heap.size + 1 + 1 + 1, 0, none⟩ (.string (B x))).setCell ⟨w.heap.size + 1 + 1 + 1, 1, none⟩ (.int .i64 m)).setCell ⟨w.heap.size + 1 + 1 + 1, 2, none⟩ (.bool true)) = WF at *
    have z0 : WF.drew.cell? ⟨w.heap.size + 1 + 1, 0, none⟩ = some (.int .i64 (cap : Int)) := p3.at_ 0 rfl
    have z1 : WF.drew.cell? ⟨w.heap.size + 1 + 1, 1, none⟩ = some (.slice A F.length c) := p3.at_ 1 rfl
    have z2 : WF.drew.cell? ⟨w.heap.size + 1 + 1, 2, none⟩ = some (.bool (!up)) := p3.at_ 2 rfl
    have z3 : WF.drew.cell? ⟨w.heap.size + 1 + 1, 3, none⟩ = some (.int .i64 (left : Int)) := p3.at_ 3 rfl
    have z4 : WF.drew.cell? ⟨w.heap.size + 1 + 1, 4, none⟩ = some (.int .i64 keep) := p3.at_ 4 rfl
    have x0 : WF.drew.cell? ⟨w.heap.size + 1 + 1 + 1, 0, none⟩ = some (.string (B x)) := p4.at_ 0 rfl
    have x1 : WF.drew.cell? ⟨w.heap.size + 1 + 1 + 1, 1, none⟩ = some (.int .i64 m) := p4.at_ 1 rfl
    have x2 : WF.drew.cell? ⟨w.heap.size + 1 + 1 + 1, 2, none⟩ = some (.bool true) := p4.at_ 2 rfl
    go_wp2
    refine bodyPost_ret (v := .tuple #[Rv (.slice A F.length c) ⟨cap, F, up, left, keep⟩, Rlv x m true, .int .i64 6]) (by simp [results, Tryd.results17, go_sem, z0, z1, z2, z3, z4, x0, x1, x2]) rfl ?_
    rw [HX.out]
    exact ⟨_, _, rfl, pf.old (Old.re _).dr, po.dr⟩
  | false =>
    have y0 : W.cell? ⟨w.heap.size, 0, none⟩ = some (.int .i64 (cap : Int)) := b1.at_ 0 rfl
    have y1 : W.cell? ⟨w.heap.size, 1, none⟩ = some (.slice A F.length c) := b1.at_ 1 rfl
    have y2 : W.cell? ⟨w.heap.size, 2, none⟩ = some (.bool (!up)) := b1.at_ 2 rfl
    have y3 : W.cell? ⟨w.heap.size, 3, none⟩ = some (.int .i64 (left : Int)) := b1.at_ 3 rfl
    have y4 : W.cell? ⟨w.heap.size, 4, none⟩ = some (.int .i64 keep) := b1.at_ 4 rfl
    have v0 : W.cell? ⟨w.heap.size + 1, 0, none⟩ = some (.string (B x)) := b2.at_ 0 rfl
    have v1 : W.cell? ⟨w.heap.size + 1, 1, none⟩ = some (.int .i64 m) := b2.at_ 1 rfl
    have v2 : W.cell? ⟨w.heap.size + 1, 2, none⟩ = some (.bool false) := b2.at_ 2 rfl
    have HJ := Lib.hid (rjoin_any l Al cl W HSS.out hml hsm)
    go_wp2_with fail
    refine HJ.out.mono ?_
    rintro e w1 ⟨rfl, o1⟩
    have o := o.tr o1
    have b1 := b1.old o1
    have b2 := b2.old o1
    have b3 := b3.old o1
    have b4 := b4.old o1
    have hf := HFL.out.old o1
    clear HJ HFL HSS y0 y1 y2 y3 y4 v0 v1 v2 o1
    have HFL := Lib.hid hf
    clear hf
    cases hV : l.any wideT with
    | true =>
      have HX := Lib.hid (show R = ⟨⟨cap, F, up, left, keep⟩, m, false, 71⟩ by rw [HR.out]; unfold rchange; rw [if_neg (by decide), if_pos hV])
      clear HR HG
      have y0 : w1.cell? ⟨w.heap.size, 0, none⟩ = some (.int .i64 (cap : Int)) := b1.at_ 0 rfl
      have y1 : w1.cell? ⟨w.heap.size, 1, none⟩ = some (.slice A F.length c) := b1.at_ 1 rfl
      have y2 : w1.cell? ⟨w.heap.size, 2, none⟩ = some (.bool (!up)) := b1.at_ 2 rfl
      have y3 : w1.cell? ⟨w.heap.size, 3, none⟩ = some (.int .i64 (left : Int)) := b1.at_ 3 rfl
      have y4 : w1.cell? ⟨w.heap.size, 4, none⟩ = some (.int .i64 keep) := b1.at_ 4 rfl
      have v0 : w1.cell? ⟨w.heap.size + 1, 0, none⟩ = some (.string (B x)) := b2.at_ 0 rfl
      have v1 : w1.cell? ⟨w.heap.size + 1, 1, none⟩ = some (.int .i64 m) := b2.at_ 1 rfl
      have v2 : w1.cell? ⟨w.heap.size + 1, 2, none⟩ = some (.bool false) := b2.at_ 2 rfl
      have d0 : w1.cell? ⟨w.heap.size + 1 + 1, 0, none⟩ = some (.int .i64 0) := b3.at_ 0 rfl
      have d1 : w1.cell? ⟨w.heap.size + 1 + 1, 1, none⟩ = some (.slice none 0 0) := b3.at_ 1 rfl
      have d2 : w1.cell? ⟨w.heap.size + 1 + 1, 2, none⟩ = some (.bool false) := b3.at_ 2 rfl
      have d3 : w1.cell? ⟨w.heap.size + 1 + 1, 3, none⟩ = some (.int .i64 0) := b3.at_ 3 rfl
      have d4 : w1.cell? ⟨w.heap.size + 1 + 1, 4, none⟩ = some (.int .i64 0) := b3.at_ 4 rfl
      have df0 := b3.fr 0
      have df1 := b3.fr 1
      have df2 := b3.fr 2
      have df3 := b3.fr 3
      have df4 := b3.fr 4
      have g0 : w1.cell? ⟨w.heap.size + 1 + 1 + 1, 0, none⟩ = some (.string { data := #[] }) := b4.at_ 0 rfl
      have g1 : w1.cell? ⟨w.heap.size + 1 + 1 + 1, 1, none⟩ = some (.int .i64 0) := b4.at_ 1 rfl
      have g2 : w1.cell? ⟨w.heap.size + 1 + 1 + 1, 2, none⟩ = some (.bool false) := b4.at_ 2 rfl
      have gf0 := b4.fr 0
      have gf1 := b4.fr 1
      have gf2 := b4.fr 2
      have p3 := bfar3 (bk5 b3 (.int .i64 (cap : Int)) (.slice A F.length c) (.bool (!up)) (.int .i64 (left : Int)) (.int .i64 keep)) n34 (.string (B x)) (.int .i64 m) (.bool false)
      have p4 := bk3 (bfar5 b4 n43 (.int .i64 (cap : Int)) (.slice A F.length c) (.bool (!up)) (.int .i64 (left : Int)) (.int .i64 keep)) (.string (B x)) (.int .i64 m) (.bool false)
      have po := old3 (old5 o le3 (.int .i64 (cap : Int)) (.slice A F.length c) (.bool (!up)) (.int .i64 (left : Int)) (.int .i64 keep)) le4 (.string (B x)) (.int .i64 m) (.bool false)
      have pf := far3 (HFL.out.far5 b3 (by decide) (.int .i64 (cap : Int)) (.slice A F.length c) (.bool (!up)) (.int .i64 (left : Int)) (.int .i64 keep)) (bfar5 b4 n43 (.int .i64 (cap : Int)) (.slice A F.length c) (.bool (!up)) (.int .i64 (left : Int)) (.int .i64 keep)) (by decide) (.string (B x)) (.int .i64 m) (.bool false)
      have HE := Lib.hid (show _ ∧ _ ∧ _ ∧ _ from ⟨po, p3, p4, pf⟩)
      clear b1 b2 b3 b4 o po p3 p4 pf
      go_wp2_with fail
      go_region
      obtain ⟨po, p3, p4, pf⟩ := HE.out
      generalize ((((((((w1.setCell ⟨w.heap.size + 1 + 1, 0, none⟩ (.int .i64 (cap : Int))).setCell ⟨w.heap.size + 1 + 1, 1, none⟩ (.slice A F.length c)).setCell ⟨w.heap.size + 1 + 1, 2, none⟩ (.bool (!up))).setCell ⟨w.heap.size + 1 + 1, 3, none⟩ (.int .i64 (left : Int))).setCell ⟨w.heap.size + 1 + 1, 4, none⟩ (.int .i64 keep)).setCell ⟨w.heap.size + 1 + 1 + 1, 0, none⟩ (.string (B x))).setCell ⟨w.heap.size + 1 + 1 + 1, 1, none⟩ (.int .i64 m)).setCell ⟨w.heap.size + 1 + 1 + 1, 2, none⟩ (.bool false)) = WF at *
      have z0 : WF.drew.cell? ⟨w.heap.size + 1 + 1, 0, none⟩ = some (.int .i64 (cap : Int)) := p3.at_ 0 rfl
      have z1 : WF.drew.cell? ⟨w.heap.size + 1 + 1, 1, none⟩ = some (.slice A F.length c) := p3.at_ 1 rfl
      have z2 : WF.drew.cell? ⟨w.heap.size + 1 + 1, 2, none⟩ = some (.bool (!up)) := p3.at_ 2 rfl
      have z3 : WF.drew.cell? ⟨w.heap.size + 1 + 1, 3, none⟩ = some (.int .i64 (left : Int)) := p3.at_ 3 rfl
      have z4 : WF.drew.cell? ⟨w.heap.size + 1 + 1, 4, none⟩ = some (.int .i64 keep) := p3.at_ 4 rfl
      have x0 : WF.drew.cell? ⟨w.heap.size + 1 + 1 + 1, 0, none⟩ = some (.string (B x)) := p4.at_ 0 rfl
      have x1 : WF.drew.cell? ⟨w.heap.size + 1 + 1 + 1, 1, none⟩ = some (.int .i64 m) := p4.at_ 1 rfl
      have x2 : WF.drew.cell? ⟨w.heap.size + 1 + 1 + 1, 2, none⟩ = some (.bool false) := p4.at_ 2 rfl
      go_wp2
      refine bodyPost_ret (v := .tuple #[Rv (.slice A F.length c) ⟨cap, F, up, left, keep⟩, Rlv x m false, .int .i64 71]) (by simp [results, Tryd.results17, go_sem, z0, z1, z2, z3, z4, x0, x1, x2]) rfl ?_
      rw [HX.out]
      exact ⟨_, _, rfl, pf.old (Old.re _).dr, po.dr⟩
    | false =>
      have HR1 := Lib.hid (show R = ⟨(rwrite x (jS l) ⟨cap, F, up, left, keep⟩).1, tM m (rwrite x (jS l) ⟨cap, F, up, left, keep⟩).2 l.length, tD false (rwrite x (jS l) ⟨cap, F, up, left, keep⟩).2, (rwrite x (jS l) ⟨cap, F, up, left, keep⟩).2⟩ by rw [HR.out]; unfold rchange; rw [if_neg (by decide), if_neg (by rw [hV]; decide)])
      have hjl : (jS l).length ≤ 1000000000000 := by
        unfold jS
        rw [if_neg (by rw [hV]; decide)]
        have := puts_le l (fun t ht => wide_not (by have := hV; rw [List.any_eq_false] at this; simpa using this t ht))
        omega
      clear HR
      obtain ⟨R1, hR1⟩ : ∃ R1, R1 = rwrite x (jS l) ⟨cap, F, up, left, keep⟩ := ⟨_, rfl⟩
      have HC := rwrite_any A c ⟨cap, F, up, left, keep⟩ x (jS l) HG.out hx hjl w1 HFL.out
      rw [← hR1] at HC HR1
      have HC := Lib.hid HC
      clear hR1 hjl HG
      generalize jS l = J at *
      have y0 : w1.cell? ⟨w.heap.size, 0, none⟩ = some (.int .i64 (cap : Int)) := b1.at_ 0 rfl
      have y1 : w1.cell? ⟨w.heap.size, 1, none⟩ = some (.slice A F.length c) := b1.at_ 1 rfl
      have y2 : w1.cell? ⟨w.heap.size, 2, none⟩ = some (.bool (!up)) := b1.at_ 2 rfl
      have y3 : w1.cell? ⟨w.heap.size, 3, none⟩ = some (.int .i64 (left : Int)) := b1.at_ 3 rfl
      have y4 : w1.cell? ⟨w.heap.size, 4, none⟩ = some (.int .i64 keep) := b1.at_ 4 rfl
      have v0 : w1.cell? ⟨w.heap.size + 1, 0, none⟩ = some (.string (B x)) := b2.at_ 0 rfl
      have v1 : w1.cell? ⟨w.heap.size + 1, 1, none⟩ = some (.int .i64 m) := b2.at_ 1 rfl
      have v2 : w1.cell? ⟨w.heap.size + 1, 2, none⟩ = some (.bool false) := b2.at_ 2 rfl
      go_wp2_with fail
      refine HC.out.mono ?_
      clear HC HFL
      rintro e w3 ⟨A1, c1, rfl, hf, o1⟩
      have o := o.tr o1
      have b1 := b1.old o1
      have b2 := b2.old o1
      have b3 := b3.old o1
      have b4 := b4.old o1
      clear o1 y0 y1 y2 y3 y4 v0 v1 v2
      obtain ⟨⟨cap1, F1, up1, left1, keep1⟩, E1⟩ := R1
      simp only at hf HR1
      have HX := HR1
      clear HR1
      have y0 : w3.cell? ⟨w.heap.size, 0, none⟩ = some (.int .i64 (cap : Int)) := b1.at_ 0 rfl
      have y1 : w3.cell? ⟨w.heap.size, 1, none⟩ = some (.slice A F.length c) := b1.at_ 1 rfl
      have y2 : w3.cell? ⟨w.heap.size, 2, none⟩ = some (.bool (!up)) := b1.at_ 2 rfl
      have y3 : w3.cell? ⟨w.heap.size, 3, none⟩ = some (.int .i64 (left : Int)) := b1.at_ 3 rfl
      have y4 : w3.cell? ⟨w.heap.size, 4, none⟩ = some (.int .i64 keep) := b1.at_ 4 rfl
      have yf0 := b1.fr 0
      have yf1 := b1.fr 1
      have yf2 := b1.fr 2
      have yf3 := b1.fr 3
      have yf4 := b1.fr 4
      have HH := Lib.hid (show _ ∧ _ ∧ _ ∧ _ ∧ _ ∧ _ from ⟨(((((o.st (p := ⟨w.heap.size, 0, none⟩) (Nat.le_refl _) (.int .i64 (cap1 : Int))).st (p := ⟨w.heap.size, 1, none⟩) (Nat.le_refl _) (.slice A1 F1.length c1)).st (p := ⟨w.heap.size, 2, none⟩) (Nat.le_refl _) (.bool (!up1))).st (p := ⟨w.heap.size, 3, none⟩) (Nat.le_refl _) (.int .i64 (left1 : Int))).st (p := ⟨w.heap.size, 4, none⟩) (Nat.le_refl _) (.int .i64 keep1)), (bk5 b1 (.int .i64 (cap1 : Int)) (.slice A1 F1.length c1) (.bool (!up1)) (.int .i64 (left1 : Int)) (.int .i64 keep1)), bfar5 b2 n21 (.int .i64 (cap1 : Int)) (.slice A1 F1.length c1) (.bool (!up1)) (.int .i64 (left1 : Int)) (.int .i64 keep1), bfar5 b3 n31 (.int .i64 (cap1 : Int)) (.slice A1 F1.length c1) (.bool (!up1)) (.int .i64 (left1 : Int)) (.int .i64 keep1), bfar5 b4 n41 (.int .i64 (cap1 : Int)) (.slice A1 F1.length c1) (.bool (!up1)) (.int .i64 (left1 : Int)) (.int .i64 keep1), hf.far5 b1 (by decide) (.int .i64 (cap1 : Int)) (.slice A1 F1.length c1) (.bool (!up1)) (.int .i64 (left1 : Int)) (.int .i64 keep1)⟩)
      clear o b1 b2 b3 b4 hf
      go_upto_region 7 with (fail)
      obtain ⟨o, b1, b2, b3, b4, hf⟩ := HH.out
      clear HH y0 y1 y2 y3 y4 yf0 yf1 yf2 yf3 yf4
      generalize (((((w3.setCell ⟨w.heap.size, 0, none⟩ (.int .i64 (cap1 : Int))).setCell ⟨w.heap.size, 1, none⟩ (.slice A1 F1.length c1)).setCell ⟨w.heap.size, 2, none⟩ (.bool (!up1))).setCell ⟨w.heap.size, 3, none⟩ (.int .i64 (left1 : Int))).setCell ⟨w.heap.size, 4, none⟩ (.int .i64 keep1)) = W3 at *
      have HFL1 := Lib.hid hf
      clear hf
      have hC : W3.drew.cell? ⟨w.heap.size, 0, none⟩ = some (.int .i64 (cap1 : Int)) ∧ W3.drew.cell? ⟨w.heap.size, 1, none⟩ = some (.slice A1 F1.length c1) ∧ W3.drew.cell? ⟨w.heap.size, 2, none⟩ = some (.bool (!up1)) ∧ W3.drew.cell? ⟨w.heap.size, 3, none⟩ = some (.int .i64 (left1 : Int)) ∧ W3.drew.cell? ⟨w.heap.size, 4, none⟩ = some (.int .i64 keep1) ∧ W3.drew.cell? ⟨w.heap.size + 1, 0, none⟩ = some (.string (B x)) ∧ W3.drew.cell? ⟨w.heap.size + 1, 1, none⟩ = some (.int .i64 m) ∧ W3.drew.cell? ⟨w.heap.size + 1, 2, none⟩ = some (.bool false) := ⟨b1.at_ 0 rfl, b1.at_ 1 rfl, b1.at_ 2 rfl, b1.at_ 3 rfl, b1.at_ 4 rfl, b2.at_ 0 rfl, b2.at_ 1 rfl, b2.at_ 2 rfl⟩
      refine wp_region_noPanic ?_
      refine wp_region_held_drew (S := fun V => V.cell? ⟨w.heap.size, 0, none⟩ = some (.int .i64 (cap1 : Int)) ∧ V.cell? ⟨w.heap.size, 1, none⟩ = some (.slice A1 F1.length c1) ∧ V.cell? ⟨w.heap.size, 2, none⟩ = some (.bool (!up1)) ∧ V.cell? ⟨w.heap.size, 3, none⟩ = some (.int .i64 (left1 : Int)) ∧ V.cell? ⟨w.heap.size, 4, none⟩ = some (.int .i64 keep1) ∧ V.cell? ⟨w.heap.size + 1, 0, none⟩ = some (.string (B x)) ∧ V.cell? ⟨w.heap.size + 1, 1, none⟩ = some (.int .i64 m) ∧ V.cell? ⟨w.heap.size + 1, 2, none⟩ = some (.bool false)) (by kernel_rfl) hC (fun hHeld => ?_)
      refine wpAnyH_take (i := 0) (oi := ?o0) (v := .agg #[.int .i64 (cap1 : Int), .slice A1 F1.length c1, .bool (!up1), .int .i64 (left1 : Int), .int .i64 keep1]) ?h0 (by kernel_rfl) (by kernel_rfl) (by kernel_rfl) (fun _ _ _ h => h) ?y0 (by assumption) ?r0
      case h0 => (simp only [List.getElem?_toArray, List.getElem?_cons_zero]; rfl)
      case y0 => exact Or.inl ⟨by rfl, by (intro W hSw; (try dsimp only at hSw); go_simp)⟩
      simp only [Act.put, List.setIfInBounds_toArray, List.set_cons_zero, List.set_cons_succ]
      refine wpAnyH_take (i := 1) (oi := ?o1) (v := .agg #[.string (B x), .int .i64 m, .bool false]) ?h1 (by kernel_rfl) (by kernel_rfl) (by kernel_rfl) (fun _ _ _ h => h) ?y1 (by assumption) ?r1
      case h1 => (simp only [List.getElem?_toArray, List.getElem?_cons_zero, List.getElem?_cons_succ]; rfl)
      case y1 => exact Or.inl ⟨by rfl, by (intro W hSw; (try dsimp only at hSw); go_simp)⟩
      simp only [Act.put, List.setIfInBounds_toArray, List.set_cons_zero, List.set_cons_succ]
      refine wpAnyH_take (i := 2) (oi := ?o2) (v := .int .i64 E1) ?h2 (by kernel_rfl) (by kernel_rfl) (by kernel_rfl) (fun _ _ _ h => h) ?y2 (by assumption) ?r2
      case h2 => (simp only [List.getElem?_toArray, List.getElem?_cons_zero, List.getElem?_cons_succ]; rfl)
      case y2 => exact Or.inl ⟨by rfl, by (intro W hSw; (try dsimp only at hSw); go_simp)⟩
      simp only [Act.put, List.setIfInBounds_toArray, List.set_cons_zero, List.set_cons_succ]
      refine wpAnyH_take (i := 3) (oi := ?o3) (v := .slice Al l.length cl) ?h3 (by kernel_rfl) (by kernel_rfl) (by kernel_rfl) (fun _ _ _ h => h) ?y3 (by assumption) ?r3
      case h3 => (simp only [List.getElem?_toArray, List.getElem?_cons_zero, List.getElem?_cons_succ]; rfl)
      case y3 => exact Or.inl ⟨by rfl, by (intro W hSw; (try dsimp only at hSw); go_simp)⟩
      simp only [Act.put, List.setIfInBounds_toArray, List.set_cons_zero, List.set_cons_succ]
      refine wpAnyH_take (i := 4) (oi := ?o4) (v := .int .i64 (l.length : Int)) ?h4 (by kernel_rfl) (by kernel_rfl) (by kernel_rfl) (fun _ _ _ h => h) ?y4 (by assumption) ?r4
      case h4 => (simp only [List.getElem?_toArray, List.getElem?_cons_zero, List.getElem?_cons_succ]; rfl)
      case y4 => exact Or.inl ⟨by rfl, by (intro W hSw; (try dsimp only at hSw); go_simp)⟩
      simp only [Act.put, List.setIfInBounds_toArray, List.set_cons_zero, List.set_cons_succ]
      refine wpAnyH_take (i := 6) (oi := ?o6) (v := .int .i64 E1) ?h6 (by kernel_rfl) (by kernel_rfl) (by kernel_rfl) (fun _ _ _ h => h) ?y6 (by assumption) ?r6
      case h6 => (simp only [List.getElem?_toArray, List.getElem?_cons_zero, List.getElem?_cons_succ]; rfl)
      case y6 => exact Or.inl ⟨by rfl, by (intro W hSw; (try dsimp only at hSw); go_simp)⟩
      simp only [Act.put, List.setIfInBounds_toArray, List.set_cons_zero, List.set_cons_succ]
      clear hHeld
      have od : Old W3 W3.drew := (Old.re W3).dr
      refine wpAnyH_ready (rs := [5]) (by kernel_rfl) (by simp) ?_
      refine AllReadyH.cons rfl (fun K hK => ?_) AllReadyH.nil
      go_simp
      have HT := rtold_any x m false E1 (l.length : Int) W3.drew
      generalize hM2 : tM m E1 (l.length : Int) = M2 at *
      generalize hD2 : tD false E1 = D2 at *
      refine HT.mono ?_
      rintro e w7 ⟨rfl, o7⟩
      have o7 := od.tr o7
      have b1 := b1.old o7
      have b2 := b2.old o7
      have b3 := b3.old o7
      have b4 := b4.old o7
      have o := o.tr o7
      have hf := HFL1.out.old o7
      refine hK.out _ _ ⟨b1.at_ 0 rfl, b1.at_ 1 rfl, b1.at_ 2 rfl, b1.at_ 3 rfl, b1.at_ 4 rfl, b2.at_ 0 rfl, b2.at_ 1 rfl, b2.at_ 2 rfl⟩ (fun _ => ?_)
      clear hK HT hC od
      have d0 : w7.cell? ⟨w.heap.size + 1 + 1, 0, none⟩ = some (.int .i64 0) := b3.at_ 0 rfl
      have d1 : w7.cell? ⟨w.heap.size + 1 + 1, 1, none⟩ = some (.slice none 0 0) := b3.at_ 1 rfl
      have d2 : w7.cell? ⟨w.heap.size + 1 + 1, 2, none⟩ = some (.bool false) := b3.at_ 2 rfl
      have d3 : w7.cell? ⟨w.heap.size + 1 + 1, 3, none⟩ = some (.int .i64 0) := b3.at_ 3 rfl
      have d4 : w7.cell? ⟨w.heap.size + 1 + 1, 4, none⟩ = some (.int .i64 0) := b3.at_ 4 rfl
      have df0 := b3.fr 0
      have df1 := b3.fr 1
      have df2 := b3.fr 2
      have df3 := b3.fr 3
      have df4 := b3.fr 4
      have q1 := bfar5 b1 (Ne.symm n31) (.int .i64 (cap1 : Int)) (.slice A1 F1.length c1) (.bool (!up1)) (.int .i64 (left1 : Int)) (.int .i64 keep1)
      have q2 := bfar5 b2 (Ne.symm n32) (.int .i64 (cap1 : Int)) (.slice A1 F1.length c1) (.bool (!up1)) (.int .i64 (left1 : Int)) (.int .i64 keep1)
      have q3 := bk5 b3 (.int .i64 (cap1 : Int)) (.slice A1 F1.length c1) (.bool (!up1)) (.int .i64 (left1 : Int)) (.int .i64 keep1)
      have q4 := bfar5 b4 n43 (.int .i64 (cap1 : Int)) (.slice A1 F1.length c1) (.bool (!up1)) (.int .i64 (left1 : Int)) (.int .i64 keep1)
      have qo := old5 o le3 (.int .i64 (cap1 : Int)) (.slice A1 F1.length c1) (.bool (!up1)) (.int .i64 (left1 : Int)) (.int .i64 keep1)
      have qf := hf.far5 b3 (by decide) (.int .i64 (cap1 : Int)) (.slice A1 F1.length c1) (.bool (!up1)) (.int .i64 (left1 : Int)) (.int .i64 keep1)
      refine wpAnyH_ready (rs := [7]) (by kernel_rfl) (by simp) ?_
      refine AllReadyH.cons rfl (fun K hK => ?_) AllReadyH.nil
      go_simp
      refine hK.out _ _ ⟨q1.at_ 0 rfl, q1.at_ 1 rfl, q1.at_ 2 rfl, q1.at_ 3 rfl, q1.at_ 4 rfl, q2.at_ 0 rfl, q2.at_ 1 rfl, q2.at_ 2 rfl⟩ (fun _ => ?_)
      clear hK b1 b2 b3 b4 o hf d0 d1 d2 d3 d4 df0 df1 df2 df3 df4
      generalize (((((w7.setCell ⟨w.heap.size + 1 + 1, 0, none⟩ (.int .i64 (cap1 : Int))).setCell ⟨w.heap.size + 1 + 1, 1, none⟩ (.slice A1 F1.length c1)).setCell ⟨w.heap.size + 1 + 1, 2, none⟩ (.bool (!up1))).setCell ⟨w.heap.size + 1 + 1, 3, none⟩ (.int .i64 (left1 : Int))).setCell ⟨w.heap.size + 1 + 1, 4, none⟩ (.int .i64 keep1)) = W5 at *
      have g0 : W5.cell? ⟨w.heap.size + 1 + 1 + 1, 0, none⟩ = some (.string { data := #[] }) := q4.at_ 0 rfl
      have g1 : W5.cell? ⟨w.heap.size + 1 + 1 + 1, 1, none⟩ = some (.int .i64 0) := q4.at_ 1 rfl
      have g2 : W5.cell? ⟨w.heap.size + 1 + 1 + 1, 2, none⟩ = some (.bool false) := q4.at_ 2 rfl
      have gf0 := q4.fr 0
      have gf1 := q4.fr 1
      have gf2 := q4.fr 2
      have r1 := bfar3 q1 (Ne.symm n41) (.string (B x)) (.int .i64 M2) (.bool D2)
      have r2 := bfar3 q2 (Ne.symm n42) (.string (B x)) (.int .i64 M2) (.bool D2)
      have r3 := bfar3 q3 n34 (.string (B x)) (.int .i64 M2) (.bool D2)
      have r4 := bk3 q4 (.string (B x)) (.int .i64 M2) (.bool D2)
      have ro := old3 qo le4 (.string (B x)) (.int .i64 M2) (.bool D2)
      have rf := far3 qf q4 (by decide) (.string (B x)) (.int .i64 M2) (.bool D2)
      refine wpAnyH_ready (rs := [8]) (by kernel_rfl) (by simp) ?_
      refine AllReadyH.cons rfl (fun K hK => ?_) AllReadyH.nil
      go_simp
      refine hK.out _ _ ⟨r1.at_ 0 rfl, r1.at_ 1 rfl, r1.at_ 2 rfl, r1.at_ 3 rfl, r1.at_ 4 rfl, r2.at_ 0 rfl, r2.at_ 1 rfl, r2.at_ 2 rfl⟩ (fun _ => ?_)
      clear hK q1 q2 q3 q4 qo qf g0 g1 g2 gf0 gf1 gf2
      generalize (((W5.setCell ⟨w.heap.size + 1 + 1 + 1, 0, none⟩ (.string (B x))).setCell ⟨w.heap.size + 1 + 1 + 1, 1, none⟩ (.int .i64 M2)).setCell ⟨w.heap.size + 1 + 1 + 1, 2, none⟩ (.bool D2)) = W6 at *
      refine wpAnyH_ready (rs := [9]) (by kernel_rfl) (by simp) ?_
      refine AllReadyH.cons rfl (fun K hK => ?_) AllReadyH.nil
      go_simp
      refine hK.out _ _ ⟨r1.at_ 0 rfl, r1.at_ 1 rfl, r1.at_ 2 rfl, r1.at_ 3 rfl, r1.at_ 4 rfl, r2.at_ 0 rfl, r2.at_ 1 rfl, r2.at_ 2 rfl⟩ (fun _ => ?_)
      clear hK
      refine wpAnyH_done (by kernel_rfl) ?_ _
      refine NoPanic.normal ?_
      have z0 : W6.cell? ⟨w.heap.size + 1 + 1, 0, none⟩ = some (.int .i64 (cap1 : Int)) := r3.at_ 0 rfl
      have z1 : W6.cell? ⟨w.heap.size + 1 + 1, 1, none⟩ = some (.slice A1 F1.length c1) := r3.at_ 1 rfl
      have z2 : W6.cell? ⟨w.heap.size + 1 + 1, 2, none⟩ = some (.bool (!up1)) := r3.at_ 2 rfl
      have z3 : W6.cell? ⟨w.heap.size + 1 + 1, 3, none⟩ = some (.int .i64 (left1 : Int)) := r3.at_ 3 rfl
      have z4 : W6.cell? ⟨w.heap.size + 1 + 1, 4, none⟩ = some (.int .i64 keep1) := r3.at_ 4 rfl
      have u0 : W6.cell? ⟨w.heap.size + 1 + 1 + 1, 0, none⟩ = some (.string (B x)) := r4.at_ 0 rfl
      have u1 : W6.cell? ⟨w.heap.size + 1 + 1 + 1, 1, none⟩ = some (.int .i64 M2) := r4.at_ 1 rfl
      have u2 : W6.cell? ⟨w.heap.size + 1 + 1 + 1, 2, none⟩ = some (.bool D2) := r4.at_ 2 rfl
      go_wp2
      refine bodyPost_ret (v := .tuple #[Rv (.slice A1 F1.length c1) ⟨cap1, F1, up1, left1, keep1⟩, Rlv x M2 D2, .int .i64 E1]) (by simp [results, Tryd.results17, go_sem, z0, z1, z2, z3, z4, u0, u1, u2]) rfl ?_
      rw [HX.out]
      exact ⟨_, _, rfl, rf, ro⟩
end Go.Proofs.YtilimfbjkgeciaaDoor
