/-
  A table in memory: Cells, Row, Span, Many, Bytes, has. Conditions: lengths as written.
-/
import Derived.Test.YthanenblcplbhaaMCol
import Derived.Test.YthanenblcplbhaaMWth
import Derived.Test.YthanenblcplbhaaMEnc
namespace Go.Proofs.Ythanenblcplbhaa
set_option maxRecDepth 100000
open Go.RowKit Go.Shelf

attribute [local go_sem] Oper.semAt_some

/-- How many bytes cells have. -/
def totB (L : List Cel) : Nat := (L.map fun c => (enc c).length).sum
/-- A table lies here. -/
structure Tbl (w : World) (tb : Nat) (t : BT) : Prop where
  box : ∃ p, Bk w tb 47 #[.pointer p, .int .i64 (t.ino.length : Int), .int .i64 (totB t.ino : Int)] ∧ Tre w p t
  nd : t.bls.Nodup
  up : Up t.ino
  may : ∀ c ∈ t.ino, mayB c = true ∧ c.ok
theorem Tbl.old {w w' : World} {tb : Nat} {t : BT} (h : Tbl w tb t) (o : Old w w') : Tbl w' tb t :=
  ⟨h.box.imp fun _ ⟨a, b⟩ => ⟨a.old o, b.old o⟩, h.nd, h.up, h.may⟩

set_option maxHeartbeats 2000000 in
theorem list_in (n : Nat) (tb : Nat) (t : BT) (f : Cel → Int) (kw : Nat) (lb : Array Value) (w : World) (h : Tbl w tb t) (hw : Whr (colT w.heap.size) kw lb f w) (hf : Rises f t.ino) (hL : t.ino.length ≤ 1000000) :
    CallsIn Fence.wide n Try.prog 28 #[.pointer (some ⟨tb, 0, none⟩), .func (.func kw) #[] lb] w fun e w' => ∃ u, e = .returned u ∧ OwnC w' w.heap.size u (t.ino.filter fun c => decide (f c = 0)) ∧ Old w w' := by
  obtain ⟨p, hb, ht⟩ := h.box
  have oA := old_alloc w (.cells #[.pointer p] 45)
  have oB := oA.al (.cells #[.func (.func kw) #[] lb] 54)
  have hbn : Bk ((w.alloc (.cells #[.pointer p] 45)).alloc (.cells #[.func (.func kw) #[] lb] 54)) w.heap.size 45 #[.pointer p] := (new_bk w _ _).alloc _
  have hbw := new_bk (w.alloc (.cells #[.pointer p] 45)) 54 #[.func (.func kw) #[] lb]
  rw [World.size_alloc] at hbw
  have hsz : w.heap.size ≤ ((w.alloc (.cells #[.pointer p] 45)).alloc (.cells #[.func (.func kw) #[] lb] 54)).heap.size := oB.size
  have hlen : (t.ino.filter fun c => decide (f c = 0)).length ≤ 1000000 := Nat.le_trans (List.length_filter_le _ _) hL
  have HC := Lib.hid (fun m => collect_in m w.heap.size _ hsz 50 #[.pointer (some ⟨w.heap.size, 0, none⟩), .pointer (some ⟨w.heap.size + 1, 0, none⟩)] (t.ino.filter fun c => decide (f c = 0)) hlen (enters_of Try.func50 (by kernel_rfl) rfl)
    (fun W o => by
      have o2 := oB.tr o
      have := stretch_any (colT w.heap.size) (colT_mine _) f kw lb t p w.heap.size (w.heap.size + 1) W W.heap.size (hbn.old o) (hbw.old o) (ht.old o2) (hw.mine (.of_old o2))
      rwa [told_filter f t hf] at this))
  have c0 : w.cell? ⟨tb, 0, none⟩ = some (.pointer p) := hb.cell 0
  clear hbn hbw hsz hlen hb ht hw oA
  refine callsIn_of_wp Try.func28 rfl trivial ?_ rfl
  simp only [Try.ntmps28, List.size_toArray, List.length_cons, List.length_nil, Nat.reduceAdd, Nat.reduceSub, Array.replicate_succ, Array.replicate_zero, List.push_toArray, List.append_toArray, List.nil_append, List.cons_append]
  gi_wp2_with fail
  refine ⟨trivial, fun h => (by cases h), (stretch_in p kw lb _ w).mono ?_⟩
  rintro e w1 ⟨rfl, rfl⟩
  gi_wp2_with fail
  refine ⟨trivial, fun h => (by cases h), (HC.out _).mono ?_⟩
  rintro e w2 ⟨u, rfl, h1, o1⟩
  obtain ⟨A3, n3, c3, rfl⟩ := h1.slice
  gi_wp2
  go_ret
  exact ⟨_, rfl, ⟨h1.1, h1.2.imp id fun ⟨g, cap, cur, a, b, c⟩ => ⟨g, cap, cur, a, Nat.le_trans oB.size b, c⟩⟩, oB.tr o1⟩
theorem list_any (tb : Nat) (t : BT) (f : Cel → Int) (kw : Nat) (lb : Array Value) (w : World) (h : Tbl w tb t) (hw : Whr (colT w.heap.size) kw lb f w) (hf : Rises f t.ino) (hL : t.ino.length ≤ 1000000) :
    Calls Try.prog 28 #[.pointer (some ⟨tb, 0, none⟩), .func (.func kw) #[] lb] w fun e w' => ∃ u, e = .returned u ∧ OwnC w' w.heap.size u (t.ino.filter fun c => decide (f c = 0)) ∧ Old w w' :=
  callsIn_wide.1 (list_in 9 tb t f kw lb w h hw hf hL)
theorem OwnC.from_ {w : World} {b b' : Nat} {v : Value} {l : List Cel} (h : OwnC w b v l) (hb : b' ≤ b) : OwnC w b' v l :=
  ⟨h.1, h.2.imp id fun ⟨g, cap, cur, a, q, c⟩ => ⟨g, cap, cur, a, Nat.le_trans hb q, c⟩⟩
/-- An answer: cells of the call's own; all else stays. -/
def Ans (w : World) (L : List Cel) (e : Ending) (w' : World) : Prop := ∃ u, e = .returned u ∧ OwnC w' w.heap.size u L ∧ Old w w'

set_option maxHeartbeats 1000000 in
theorem cells_any (tb : Nat) (t : BT) (w : World) (h : Tbl w tb t) (hL : t.ino.length ≤ 1000000) : Calls Try.prog 13 #[.pointer (some ⟨tb, 0, none⟩)] w (Ans w t.ino) := by
  have HL := Lib.hid (list_any tb t (fun _ => 0) 29 #[] w h (where_cells _ w) (rises_cells _) hL)
  go_enter Try.func13, Try.ntmps13
  go_wp2_with fail
  refine HL.out.mono ?_
  rintro e w1 ⟨u, rfl, h1, o1⟩
  obtain ⟨A3, n3, c3, rfl⟩ := h1.slice
  go_wp2
  go_ret
  rw [List.filter_eq_self.2 fun _ _ => by simp] at h1
  exact ⟨_, rfl, h1, o1⟩
set_option maxHeartbeats 1000000 in
theorem row_any (tb : Nat) (t : BT) (s : List UInt8) (w : World) (h : Tbl w tb t) (hL : t.ino.length ≤ 1000000) : Calls Try.prog 16 #[.pointer (some ⟨tb, 0, none⟩), .string (B s)] w (Ans w (t.ino.filter fun c => c.row == s)) := by
  have o0 := old_alloc w (.cells #[.string (B s)] 9)
  have HL := Lib.hid (list_any tb t (fun c => cmpT c.row s) 31 #[.pointer (some ⟨w.heap.size, 0, none⟩)] (w.alloc (.cells #[.string (B s)] 9)) (h.old o0) (where_row _ s w.heap.size _ (new_bk _ _ _) (by simp [colT])) (rises_row h.up s) hL)
  go_enter Try.func16, Try.ntmps16
  go_wp2_with fail
  refine HL.out.mono ?_
  rintro e w1 ⟨u, rfl, h1, o1⟩
  obtain ⟨A3, n3, c3, rfl⟩ := h1.slice
  go_wp2
  go_ret
  refine ⟨_, rfl, ?_, o0.tr o1⟩
  have e : (t.ino.filter fun c => decide (cmpT c.row s = 0)) = t.ino.filter fun c => c.row == s := by
    refine List.filter_congr fun c _ => ?_
    by_cases q : c.row = s
    · subst q; simp [cmpT_refl]
    · have : cmpT c.row s ≠ 0 := fun h => q (cmpT_zero _ _ h)
      simp [q, this]
  rw [e] at h1
  exact h1.from_ o0.size
/-- In a span of rows. -/
def inSpan (a z : List UInt8) (c : Cel) : Bool := decide (cmpT c.row a ≠ -1) && (z.isEmpty || decide (cmpT c.row z = -1))
set_option maxHeartbeats 1000000 in
theorem span_any (tb : Nat) (t : BT) (a z : List UInt8) (w : World) (h : Tbl w tb t) (hL : t.ino.length ≤ 1000000) : Calls Try.prog 14 #[.pointer (some ⟨tb, 0, none⟩), .string (B a), .string (B z)] w (Ans w (t.ino.filter (inSpan a z))) := by
  have o0 := (old_alloc w (.cells #[.string (B a)] 9)).al (.cells #[.string (B z)] 9)
  have ba : Bk ((w.alloc (.cells #[.string (B a)] 9)).alloc (.cells #[.string (B z)] 9)) w.heap.size 9 #[.string (B a)] := (new_bk w _ _).alloc _
  have bz := new_bk (w.alloc (.cells #[.string (B a)] 9)) 9 #[.string (B z)]
  rw [World.size_alloc] at bz
  have HL := Lib.hid (list_any tb t (spanF a z) 30 #[.pointer (some ⟨w.heap.size, 0, none⟩), .pointer (some ⟨w.heap.size + 1, 0, none⟩)] _ (h.old o0) (where_span _ a z w.heap.size (w.heap.size + 1) _ ba bz (by simp [colT]) (by simp [colT])) (rises_span h.up a z) hL)
  clear ba bz
  go_enter Try.func14, Try.ntmps14
  go_wp2_with fail
  refine HL.out.mono ?_
  rintro e w1 ⟨u, rfl, h1, o1⟩
  obtain ⟨A3, n3, c3, rfl⟩ := h1.slice
  go_wp2
  go_ret
  refine ⟨_, rfl, ?_, o0.tr o1⟩
  have e : (t.ino.filter fun c => decide (spanF a z c = 0)) = t.ino.filter (inSpan a z) := by
    refine List.filter_congr fun c _ => ?_
    rw [Bool.eq_iff_iff, decide_eq_true_eq, spanF_zero, inSpan]
    simp
  rw [e] at h1
  exact h1.from_ o0.size
set_option maxHeartbeats 400000 in
theorem many_any (tb : Nat) (t : BT) (w : World) (h : Tbl w tb t) : Calls Try.prog 18 #[.pointer (some ⟨tb, 0, none⟩)] w fun e w' => e = .returned (.int .i64 (t.ino.length : Int)) ∧ Old w w' := by
  obtain ⟨p, hb, -⟩ := h.box
  have c1 : w.cell? ⟨tb, 1, none⟩ = some (.int .i64 (t.ino.length : Int)) := hb.cell 1
  clear hb
  go_enter Try.func18, Try.ntmps18
  go_wp2
  go_ret
  exact ⟨rfl, Old.re _⟩
set_option maxHeartbeats 400000 in
theorem bytes_any (tb : Nat) (t : BT) (w : World) (h : Tbl w tb t) : Calls Try.prog 19 #[.pointer (some ⟨tb, 0, none⟩)] w fun e w' => e = .returned (.int .i64 (totB t.ino : Int)) ∧ Old w w' := by
  obtain ⟨p, hb, -⟩ := h.box
  have c1 : w.cell? ⟨tb, 2, none⟩ = some (.int .i64 (totB t.ino : Int)) := hb.cell 2
  clear hb
  go_enter Try.func19, Try.ntmps19
  go_wp2
  go_ret
  exact ⟨rfl, Old.re _⟩
theorem tbl_empty {w : World} {tb : Nat} (h : Bk w tb 47 #[.pointer none, .int .i64 0, .int .i64 0]) : Tbl w tb .leaf :=
  ⟨⟨none, h, rfl⟩, List.nodup_nil, List.Pairwise.nil, fun c hc => by cases hc⟩
set_option maxHeartbeats 400000 in
theorem new_any (w : World) : Calls Try.prog 9 #[] w fun e w' => e = .returned (.pointer (some ⟨w.heap.size, 0, none⟩)) ∧ Tbl w' w.heap.size .leaf ∧ w.heap.size < w'.heap.size ∧ Old w w' := by
  go_enter Try.func9, Try.ntmps9
  go_wp2
  go_ret
  exact ⟨rfl, tbl_empty (new_bk _ _ _), by simp, old_alloc _ _⟩
set_option maxHeartbeats 400000 in
theorem clear_any (tb : Nat) (t : BT) (w : World) (h : Tbl w tb t) : Calls Try.prog 21 #[.pointer (some ⟨tb, 0, none⟩)] w fun e w' => (∃ v, e = .returned v) ∧ Tbl w' tb .leaf ∧ Buts (tb :: t.bls) w w' := by
  obtain ⟨p, hb, -⟩ := h.box
  have c0 : w.cell? ⟨tb, 0, none⟩ = some (.pointer p) := hb.cell 0
  have c1 : w.cell? ⟨tb, 1, none⟩ = some (.int .i64 (t.ino.length : Int)) := hb.cell 1
  have c2 : w.cell? ⟨tb, 2, none⟩ = some (.int .i64 (totB t.ino : Int)) := hb.cell 2
  have fr := hb.fr
  have HB := Lib.hid hb
  clear hb
  go_enter Try.func21, Try.ntmps21
  go_wp2
  refine bodyPost_end (results_none rfl _ _ _) rfl ?_
  refine ⟨⟨_, rfl⟩, tbl_empty (by simpa using ((HB.out.set_ 0 (.pointer none)).set_ 1 (.int .i64 0)).set_ 2 (.int .i64 0)), (((Buts.re _ _).st (by simp) _ _).st (by simp) _ _).st (by simp) _ _⟩
end Go.Proofs.Ythanenblcplbhaa
