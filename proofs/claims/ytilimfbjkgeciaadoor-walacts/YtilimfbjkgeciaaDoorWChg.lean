/-
  change, Append, Reset, Many, Off of a log. Conditions: the disk and the log lie in memory; the table is laid; lengths as written.
-/
import Derived.Test.YtilimfbjkgeciaaDoorWLog
namespace Go.Proofs.YtilimfbjkgeciaaDoor
set_option maxRecDepth 100000
open Go.RowKit Go.Maps

/-- From one disk and its log to another: all else stays. -/
structure KeptX (k k' : Dsk) (lb : Nat) (w w' : World) : Prop where
  os : w'.os = w.os
  tape : w'.tape = w.tape
  output : w'.output = w.output
  size : w.heap.size ≤ w'.heap.size
  block : ∀ i, i < w.heap.size → i ∉ own k → i ≠ lb → w'.heap[i]? = w.heap[i]?
  own : ∀ i ∈ own k', i ∈ own k ∨ w.heap.size ≤ i
theorem Kept.x {k k' : Dsk} {w w' : World} (h : Kept k k' w w') (lb : Nat) : KeptX k k' lb w w' := ⟨h.os, h.tape, h.output, h.size, fun i hi hn _ => h.block i hi hn, h.own⟩
theorem Kept.xset {k k' : Dsk} {w w' : World} (h : Kept k k' w w') (lb o : Nat) (u : Value) : KeptX k k' lb w (w'.setCell ⟨lb, o, none⟩ u) :=
  ⟨h.os, h.tape, h.output, by simpa [World.setCell] using h.size, fun i hi hn he => (Below.heap_setCell w' ⟨lb, o, none⟩ u i (fun e => he e)).trans (h.block i hi hn), h.own⟩
theorem KeptX.bk {k k' : Dsk} {lb : Nat} {w w' : World} (h : KeptX k k' lb w w') {g : Nat} {t : TypeId} {cs : Array Value} (hb : Bk w g t cs) (hg : g ∉ Go.Proofs.YtilimfbjkgeciaaDoor.own k) (hn : g ≠ lb) : Bk w' g t cs := (h.block g hb.lt hg hn).trans hb
theorem Dk.set_far {w : World} {k : Dsk} (h : Dk w k) {lb o : Nat} (u : Value) (hn : lb ∉ Go.Proofs.YtilimfbjkgeciaaDoor.own k) : Dk (w.setCell ⟨lb, o, none⟩ u) k :=
  h.same fun i hi _ => Below.heap_setCell w ⟨lb, o, none⟩ u i (fun e => hn ((show i = lb from e) ▸ hi))

/-- What a call of a log comes to, as plain data. -/
structure Lr where
  p : Pd
  many : Nat
  off : Bool
  e : Int
def pchange (g : List UInt8 → Pd → Pd × Int) (p : Pd) (many : Nat) (off : Bool) (texts : List (List UInt8)) (now : Nat) : Lr :=
  if off = true then ⟨p, many, off, 6⟩
  else if texts.any wideT = true then ⟨p, many, off, 71⟩
  else if (g (puts texts) p).2 = 0 then ⟨(g (puts texts) p).1, now, off, 0⟩
  else if (g (puts texts) p).2 = 2 then ⟨(g (puts texts) p).1, many, off, 2⟩
  else ⟨(g (puts texts) p).1, many, true, (g (puts texts) p).2⟩
def PostL (k : Dsk) (lb : Nat) (x : List UInt8) (w : World) (r : Lr) (e : Ending) (w' : World) : Prop :=
  e = .returned (.int .i64 r.e) ∧ ∃ k', ab k' = r.p ∧ k'.d = k.d ∧ Dk w' k' ∧ Lg w' lb k.d x r.many r.off ∧ KeptX k k' lb w w'
theorem postL_old {k : Dsk} {lb : Nat} {x : List UInt8} {w w' : World} {r : Lr} {e : Ending} {many : Nat} {off : Bool} {y : Int} (hr : r = ⟨ab k, many, off, y⟩) (h : Dk w k) (hl : Lg w lb k.d x many off) (he : e = .returned (.int .i64 y)) (o : Old w w') : PostL k lb x w r e w' := by
  subst hr
  exact ⟨he, k, rfl, rfl, h.old o, hl.old o, (Kept.of_old o).x lb⟩
theorem PostL.from {k : Dsk} {lb : Nat} {x : List UInt8} {w w1 w' : World} {r : Lr} {e : Ending} (o : Old w w1) (h : PostL k lb x w1 r e w') : PostL k lb x w r e w' := by
  obtain ⟨e1, k', h1, h2, h3, h4, h5⟩ := h
  exact ⟨e1, k', h1, h2, h3, h4, h5.os.trans o.os, h5.tape.trans o.tape, h5.output.trans o.output, Nat.le_trans o.size h5.size, fun i hi hn hne => (h5.block i (Nat.lt_of_lt_of_le hi o.size) hn hne).trans (o.block i hi), fun i hi => (h5.own i hi).imp id (fun hx => Nat.le_trans o.size hx)⟩
/-- Behind the row. -/
theorem postL_row {k : Dsk} {lb many : Nat} {x : List UInt8} {w w1 w2 : World} {q : Pd × Int} {e : Ending} (o : Old w w1) (hl : Lg w lb k.d x many false) (h : Dk w k) (hp : Post k w1 q e w2) :
    ∃ k', e = .returned (.int .i64 q.2) ∧ ab k' = q.1 ∧ k'.d = k.d ∧ Dk w2 k' ∧ Lg w2 lb k.d x many false ∧ Kept k k' w w2 ∧ lb ∉ own k' := by
  obtain ⟨e1, k', h1, h2, h3, h4⟩ := hp
  have hlo := hl.old o
  have h4' := (Kept.of_old o).tr h4
  have hl2 : Lg w2 lb k.d x many false := h4.bk hlo ((h.old o).other hlo (by decide) (by decide) (by decide) (by decide))
  exact ⟨k', e1, h1, h2, h3, hl2, h4', h3.other hl2 (by decide) (by decide) (by decide) (by decide)⟩
set_option maxHeartbeats 4000000 in
theorem change_app (k : Dsk) (lb many now : Nat) (x : List UInt8) (off : Bool) (hx : x.length ≤ 1000) (texts : List (List UInt8)) (A : Option Addr) (cap : Nat) (hml : texts.length ≤ 1000) (hsm : ∀ t ∈ texts, t.length ≤ 1000000) (w : World) (ht : Tab w) (hS : Strs w A cap texts) (h : Dk w k) (hl : Lg w lb k.d x many off) (gl : Nat) (b1 : Bk w gl 30 #[ptr lb]) :
    Calls Tryd.prog 36 #[ptr lb, .slice A texts.length cap, .int .i64 (now : Int), .func (.func 37) #[] #[ptr gl]] w (PostL k lb x w (pchange (play x) (ab k) many off texts now)) := by
  obtain ⟨R, hR⟩ : ∃ R, R = pchange (play x) (ab k) many off texts now := ⟨_, rfl⟩
  rw [← hR]
  have HR := Lib.hid hR
  clear hR
  have HJ := Lib.hid (jput_any texts A cap w ht hS hml hsm)
  have hl3 := hl.at_ 3 rfl
  cases off with
  | true =>
    have HX := Lib.hid (show PostL k lb x w R (.returned (.int .i64 6)) w from postL_old (by rw [HR.out]; rfl) h hl rfl (Old.re w))
    clear h hl
    go_enter Tryd.func36, Tryd.ntmps36
    go_wp2
    go_ret
    exact HX.out
  | false =>
    cases hw : texts.any wideT with
    | true =>
      have e1 : jE texts = 71 := by unfold jE; rw [hw]; rfl
      rw [e1] at HJ
      have HX := Lib.hid (fun w1 (o : Old w w1) => (show PostL k lb x w R (.returned (.int .i64 71)) w1 from postL_old (by rw [HR.out]; unfold pchange; rw [hw]; rfl) h hl rfl o))
      clear h hl hw
      go_enter Tryd.func36, Tryd.ntmps36
      go_wp2_with fail
      refine HJ.out.mono ?_
      rintro e w1 ⟨rfl, o1⟩
      go_wp2
      go_ret
      exact HX.out _ o1
    | false =>
      have e1 : jE texts = 0 := by unfold jE; rw [hw]; rfl
      have e2 : jS texts = puts texts := by unfold jS; rw [hw]; rfl
      rw [e1, e2] at HJ
      have hlen : (puts texts).length ≤ 1000000000000 := by
        have h1 := puts_le texts (fun t hx => wide_not (by
          rw [List.any_eq_false] at hw
          simpa using hw t hx))
        omega
      have HL := Lib.hid (fun w1 (o : Old w w1) => lay_any k lb many x (puts texts) false hx hlen w1 (h.old o) (hl.old o) gl (b1.old o))
      have HP := Lib.hid (fun (w1 w2 : World) (e : Ending) (o : Old w w1) (hp : Post k w1 (play x (puts texts) (ab k)) e w2) => postL_row o hl h hp)
      have HX := Lib.hid (show R = if (play x (puts texts) (ab k)).2 = 0 then ⟨(play x (puts texts) (ab k)).1, now, false, 0⟩ else if (play x (puts texts) (ab k)).2 = 2 then ⟨(play x (puts texts) (ab k)).1, many, false, 2⟩ else ⟨(play x (puts texts) (ab k)).1, many, true, (play x (puts texts) (ab k)).2⟩ by rw [HR.out]; unfold pchange; rw [if_neg (by decide), hw, if_neg (by decide)])
      clear h hl hw HR hsm hS b1
      generalize play x (puts texts) (ab k) = q at *
      generalize puts texts = S at *
      by_cases h0 : q.2 = 0
      · have HR := Lib.hid (show R = ⟨q.1, now, false, 0⟩ by rw [HX.out, if_pos h0])
        clear HX
        go_enter Tryd.func36, Tryd.ntmps36
        go_wp2_with fail
        refine HJ.out.mono ?_
        rintro e w1 ⟨rfl, o1⟩
        have HL1 := Lib.hid (HL.out w1 o1)
        go_wp2_with fail
        refine HL1.out.mono ?_
        rintro e w2 hp
        obtain ⟨k', rfl, p1, p2, p3, p4, p5, p6⟩ := HP.out _ _ _ o1 hp
        clear hp HL1
        have f2 := p4.fr 2
        have d2 := p4.at_ 2 rfl
        rw [h0]
        have HF := Lib.hid (show PostL k lb x w R (.returned (.int .i64 0)) (w2.setCell ⟨lb, 2, none⟩ (.int .i64 (now : Int))) from by
          rw [HR.out]
          exact ⟨rfl, k', p1, p2, p3.set_far _ p6, p4.set_ 2 _, p5.xset lb 2 _⟩)
        clear p3 p4 p5 p6
        go_wp2
        go_ret
        exact HF.out
      · by_cases h2 : q.2 = 2
        · have HR := Lib.hid (show R = ⟨q.1, many, false, 2⟩ by rw [HX.out, if_neg h0, if_pos h2])
          clear HX h0
          go_enter Tryd.func36, Tryd.ntmps36
          go_wp2_with fail
          refine HJ.out.mono ?_
          rintro e w1 ⟨rfl, o1⟩
          have HL1 := Lib.hid (HL.out w1 o1)
          go_wp2_with fail
          refine HL1.out.mono ?_
          rintro e w2 hp
          obtain ⟨k', rfl, p1, p2, p3, p4, p5, p6⟩ := HP.out _ _ _ o1 hp
          clear hp HL1
          rw [h2]
          have HF := Lib.hid (show PostL k lb x w R (.returned (.int .i64 2)) w2 from by
            rw [HR.out]
            exact ⟨rfl, k', p1, p2, p3, p4, p5.x lb⟩)
          clear p3 p4 p5 p6
          go_wp2
          go_ret
          exact HF.out
        · have HR := Lib.hid (show R = ⟨q.1, many, true, q.2⟩ by rw [HX.out, if_neg h0, if_neg h2])
          have b0 : (q.2 == 0) = false := by simpa using h0
          have b2 : (q.2 == 2) = false := by simpa using h2
          clear HX
          go_enter Tryd.func36, Tryd.ntmps36
          go_wp2_with fail
          refine HJ.out.mono ?_
          rintro e w1 ⟨rfl, o1⟩
          have HL1 := Lib.hid (HL.out w1 o1)
          go_wp2_with fail
          refine HL1.out.mono ?_
          rintro e w2 hp
          obtain ⟨k', rfl, p1, p2, p3, p4, p5, p6⟩ := HP.out _ _ _ o1 hp
          clear hp HL1
          have f3 := p4.fr 3
          have d3 := p4.at_ 3 rfl
          have HF := Lib.hid (show PostL k lb x w R (.returned (.int .i64 q.2)) (w2.setCell ⟨lb, 3, none⟩ (.bool true)) from by
            rw [HR.out]
            exact ⟨rfl, k', p1, p2, p3.set_far _ p6, p4.set_ 3 _, p5.xset lb 3 _⟩)
          clear p3 p4 p5 p6
          go_wp2
          go_ret
          exact HF.out
set_option maxHeartbeats 4000000 in
theorem change_res (k : Dsk) (lb many now : Nat) (x : List UInt8) (off : Bool) (hx : x.length ≤ 1000) (texts : List (List UInt8)) (A : Option Addr) (cap : Nat) (hml : texts.length ≤ 1000) (hsm : ∀ t ∈ texts, t.length ≤ 1000000) (w : World) (ht : Tab w) (hS : Strs w A cap texts) (h : Dk w k) (hl : Lg w lb k.d x many off) :
    Calls Tryd.prog 36 #[ptr lb, .slice A texts.length cap, .int .i64 (now : Int), .func (.func 31) #[ptr lb] #[]] w (PostL k lb x w (pchange (pwrite x) (ab k) many off texts now)) := by
  obtain ⟨R, hR⟩ : ∃ R, R = pchange (pwrite x) (ab k) many off texts now := ⟨_, rfl⟩
  rw [← hR]
  have HR := Lib.hid hR
  clear hR
  have HJ := Lib.hid (jput_any texts A cap w ht hS hml hsm)
  have hl3 := hl.at_ 3 rfl
  cases off with
  | true =>
    have HX := Lib.hid (show PostL k lb x w R (.returned (.int .i64 6)) w from postL_old (by rw [HR.out]; rfl) h hl rfl (Old.re w))
    clear h hl
    go_enter Tryd.func36, Tryd.ntmps36
    go_wp2
    go_ret
    exact HX.out
  | false =>
    cases hw : texts.any wideT with
    | true =>
      have e1 : jE texts = 71 := by unfold jE; rw [hw]; rfl
      rw [e1] at HJ
      have HX := Lib.hid (fun w1 (o : Old w w1) => (show PostL k lb x w R (.returned (.int .i64 71)) w1 from postL_old (by rw [HR.out]; unfold pchange; rw [hw]; rfl) h hl rfl o))
      clear h hl hw
      go_enter Tryd.func36, Tryd.ntmps36
      go_wp2_with fail
      refine HJ.out.mono ?_
      rintro e w1 ⟨rfl, o1⟩
      go_wp2
      go_ret
      exact HX.out _ o1
    | false =>
      have e1 : jE texts = 0 := by unfold jE; rw [hw]; rfl
      have e2 : jS texts = puts texts := by unfold jS; rw [hw]; rfl
      rw [e1, e2] at HJ
      have hlen : (puts texts).length ≤ 1000000000000 := by
        have h1 := puts_le texts (fun t hx => wide_not (by
          rw [List.any_eq_false] at hw
          simpa using hw t hx))
        omega
      have HL := Lib.hid (fun w1 (o : Old w w1) => write_any k lb many x (puts texts) false hx hlen w1 (h.old o) (hl.old o))
      have HP := Lib.hid (fun (w1 w2 : World) (e : Ending) (o : Old w w1) (hp : Post k w1 (pwrite x (puts texts) (ab k)) e w2) => postL_row o hl h hp)
      have HX := Lib.hid (show R = if (pwrite x (puts texts) (ab k)).2 = 0 then ⟨(pwrite x (puts texts) (ab k)).1, now, false, 0⟩ else if (pwrite x (puts texts) (ab k)).2 = 2 then ⟨(pwrite x (puts texts) (ab k)).1, many, false, 2⟩ else ⟨(pwrite x (puts texts) (ab k)).1, many, true, (pwrite x (puts texts) (ab k)).2⟩ by rw [HR.out]; unfold pchange; rw [if_neg (by decide), hw, if_neg (by decide)])
      clear h hl hw HR hsm hS
      generalize pwrite x (puts texts) (ab k) = q at *
      generalize puts texts = S at *
      by_cases h0 : q.2 = 0
      · have HR := Lib.hid (show R = ⟨q.1, now, false, 0⟩ by rw [HX.out, if_pos h0])
        clear HX
        go_enter Tryd.func36, Tryd.ntmps36
        go_wp2_with fail
        refine HJ.out.mono ?_
        rintro e w1 ⟨rfl, o1⟩
        have HL1 := Lib.hid (HL.out w1 o1)
        go_wp2_with fail
        refine HL1.out.mono ?_
        rintro e w2 hp
        obtain ⟨k', rfl, p1, p2, p3, p4, p5, p6⟩ := HP.out _ _ _ o1 hp
        clear hp HL1
        have f2 := p4.fr 2
        have d2 := p4.at_ 2 rfl
        rw [h0]
        have HF := Lib.hid (show PostL k lb x w R (.returned (.int .i64 0)) (w2.setCell ⟨lb, 2, none⟩ (.int .i64 (now : Int))) from by
          rw [HR.out]
          exact ⟨rfl, k', p1, p2, p3.set_far _ p6, p4.set_ 2 _, p5.xset lb 2 _⟩)
        clear p3 p4 p5 p6
        go_wp2
        go_ret
        exact HF.out
      · by_cases h2 : q.2 = 2
        · have HR := Lib.hid (show R = ⟨q.1, many, false, 2⟩ by rw [HX.out, if_neg h0, if_pos h2])
          clear HX h0
          go_enter Tryd.func36, Tryd.ntmps36
          go_wp2_with fail
          refine HJ.out.mono ?_
          rintro e w1 ⟨rfl, o1⟩
          have HL1 := Lib.hid (HL.out w1 o1)
          go_wp2_with fail
          refine HL1.out.mono ?_
          rintro e w2 hp
          obtain ⟨k', rfl, p1, p2, p3, p4, p5, p6⟩ := HP.out _ _ _ o1 hp
          clear hp HL1
          rw [h2]
          have HF := Lib.hid (show PostL k lb x w R (.returned (.int .i64 2)) w2 from by
            rw [HR.out]
            exact ⟨rfl, k', p1, p2, p3, p4, p5.x lb⟩)
          clear p3 p4 p5 p6
          go_wp2
          go_ret
          exact HF.out
        · have HR := Lib.hid (show R = ⟨q.1, many, true, q.2⟩ by rw [HX.out, if_neg h0, if_neg h2])
          have b0 : (q.2 == 0) = false := by simpa using h0
          have b2 : (q.2 == 2) = false := by simpa using h2
          clear HX
          go_enter Tryd.func36, Tryd.ntmps36
          go_wp2_with fail
          refine HJ.out.mono ?_
          rintro e w1 ⟨rfl, o1⟩
          have HL1 := Lib.hid (HL.out w1 o1)
          go_wp2_with fail
          refine HL1.out.mono ?_
          rintro e w2 hp
          obtain ⟨k', rfl, p1, p2, p3, p4, p5, p6⟩ := HP.out _ _ _ o1 hp
          clear hp HL1
          have f3 := p4.fr 3
          have d3 := p4.at_ 3 rfl
          have HF := Lib.hid (show PostL k lb x w R (.returned (.int .i64 q.2)) (w2.setCell ⟨lb, 3, none⟩ (.bool true)) from by
            rw [HR.out]
            exact ⟨rfl, k', p1, p2, p3.set_far _ p6, p4.set_ 3 _, p5.xset lb 3 _⟩)
          clear p3 p4 p5 p6
          go_wp2
          go_ret
          exact HF.out

/-- Append, as plain data. -/
def pappendL (x : List UInt8) (p : Pd) (many : Nat) (off : Bool) (texts : List (List UInt8)) : Lr := pchange (play x) p many off texts (many + texts.length)
def presetL (x : List UInt8) (p : Pd) (many : Nat) (off : Bool) (texts : List (List UInt8)) : Lr := pchange (pwrite x) p many off texts texts.length
set_option maxHeartbeats 4000000 in
theorem appendL_any (k : Dsk) (lb many : Nat) (x : List UInt8) (off : Bool) (hx : x.length ≤ 1000) (hmb : many ≤ 1000000000000) (texts : List (List UInt8)) (A : Option Addr) (cap : Nat) (hml : texts.length ≤ 1000) (hsm : ∀ t ∈ texts, t.length ≤ 1000000) (w : World) (ht : Tab w) (hS : Strs w A cap texts) (h : Dk w k) (hl : Lg w lb k.d x many off) :
    Calls Tryd.prog 14 #[ptr lb, .slice A texts.length cap] w (PostL k lb x w (pappendL x (ab k) many off texts)) := by
  have o := (old_alloc w (.cells #[ptr lb] 30)).dr
  have H := Lib.hid (change_app k lb many (many + texts.length) x off hx texts A cap hml hsm _ (ht.old o) (hS.old o) (h.old o) (hl.old o) w.heap.size ((new_bk w _ _).old (Old.re _).dr))
  have HO := Lib.hid o
  have d2 := (hl.old o).at_ 2 rfl
  have hl2 : (w.alloc (.cells #[ptr lb] 30)).cell? ⟨lb, 2, none⟩ = some (.int .i64 (many : Int)) := (hl.old (old_alloc w _)).at_ 2 rfl
  have d0 : (w.alloc (.cells #[ptr lb] 30)).cell? ⟨w.heap.size, 0, none⟩ = some (ptr lb) := (new_bk w _ _).at_ 0 rfl
  have hwr : IntKind.i64.wrap ((many : Int) + (texts.length : Int)) = ((many + texts.length : Nat) : Int) := by rw [IntKind.wrap_i64]; omega
  have hmf := makeF
  clear h hl hS ht o
  go_enter Tryd.func14, Tryd.ntmps14
  go_wp2
  generalize w.alloc (.cells #[ptr lb] 30) = W at *
  go_still_tail 10, (by kernel_rfl)
  change wpList _ _ _ _ _ W.drew
  go_wp2_with fail
  refine H.out.mono ?_
  rintro e w1 hp
  obtain ⟨rfl, hp2⟩ := hp
  go_wp2
  go_ret
  exact PostL.from HO.out ⟨rfl, hp2⟩
set_option maxHeartbeats 4000000 in
theorem resetL_any (k : Dsk) (lb many : Nat) (x : List UInt8) (off : Bool) (hx : x.length ≤ 1000) (texts : List (List UInt8)) (A : Option Addr) (cap : Nat) (hml : texts.length ≤ 1000) (hsm : ∀ t ∈ texts, t.length ≤ 1000000) (w : World) (ht : Tab w) (hS : Strs w A cap texts) (h : Dk w k) (hl : Lg w lb k.d x many off) :
    Calls Tryd.prog 16 #[ptr lb, .slice A texts.length cap] w (PostL k lb x w (presetL x (ab k) many off texts)) := by
  have H := Lib.hid (change_res k lb many texts.length x off hx texts A cap hml hsm w ht hS h hl)
  have hmf := makeF
  clear h hl hS ht
  go_enter Tryd.func16, Tryd.ntmps16
  go_wp2_with fail
  refine H.out.mono ?_
  rintro e w1 hp
  obtain ⟨rfl, hp2⟩ := hp
  go_wp2
  go_ret
  exact ⟨rfl, hp2⟩
theorem many_any {w : World} {lb d many : Nat} {x : List UInt8} {off : Bool} (hl : Lg w lb d x many off) :
    Calls Tryd.prog 22 #[ptr lb] w fun e w' => e = .returned (.int .i64 (many : Int)) ∧ w = w' := by
  have c := hl.at_ 2 rfl
  go_enter Tryd.func22, Tryd.ntmps22
  go_wp2
  go_ret
  exact ⟨rfl, rfl⟩
theorem off_any {w : World} {lb d many : Nat} {x : List UInt8} {off : Bool} (hl : Lg w lb d x many off) :
    Calls Tryd.prog 23 #[ptr lb] w fun e w' => e = .returned (.bool off) ∧ w = w' := by
  have c := hl.at_ 3 rfl
  go_enter Tryd.func23, Tryd.ntmps23
  go_wp2
  go_ret
  exact ⟨rfl, rfl⟩
theorem up_any (k : Dsk) (w : World) (h : Dk w k) :
    Calls Tryd.prog 24 #[ptr k.d] w fun e w' => e = .returned (.bool k.up) ∧ w = w' := by
  have c := h.disk.at_ 2 rfl
  go_enter Tryd.func24, Tryd.ntmps24
  go_wp2
  go_ret
  exact ⟨rfl, rfl⟩
end Go.Proofs.YtilimfbjkgeciaaDoor
