/-
  What the writer writes of a cell, of the code: its entry. Conditions: the cell may be, its numbers are of 64 bits; lengths as written.
-/
import Derived.Test.YtlmlopdakbbbjaaGreatDoorWr
namespace Go.Proofs.YtlmlopdakbbbjaaGreatDoor
open Go.RowKit

/-- Two bytes of a number, the lowest one first. -/
def two (n : Nat) : List UInt8 := [UInt8.ofNat n, UInt8.ofNat (n / 256)]
/-- The bytes of a cell, behind the key that lends. -/
def ent (lends : List UInt8) (c : Cel) : List UInt8 :=
  two (share lends (key c)) ++ two ((key c).length - share lends (key c)) ++ (key c).drop (share lends (key c)) ++ flag1 c.del ++ [UInt8.ofNat c.val.length] ++ c.val
theorem key_len (c : Cel) (hm : mayB c = true) : (key c).length ≤ 180 := by
  obtain ⟨h1, h2, h3, h4, h5⟩ := mayB_parts hm
  have := marks_le40 _ h2
  have := marks_le40 _ h4
  simp [key, high8]
  omega
theorem ent_len (lends : List UInt8) (c : Cel) (hm : mayB c = true) : (ent lends c).length ≤ 300 := by
  have := key_len c hm
  obtain ⟨h1, h2, h3, h4, h5⟩ := mayB_parts hm
  simp [ent, two, flag1_len]
  omega

theorem Wr.old {w w' : World} {g : Nat} {l t : List UInt8} (h : Wr w g l t) (k : Old w w') : Wr w' g l t := by
  obtain ⟨v, hB, hO⟩ := h
  exact ⟨v, hB.old k, hO.below k (Nat.le_refl _)⟩
theorem Wr.last {w : World} {g : Nat} {l t : List UInt8} (h : Wr w g l t) : w.cell? ⟨g, 1, none⟩ = some (.string (B t)) := by
  obtain ⟨v, hB, hO⟩ := h
  exact hB.cell 1
theorem Wr.setLast {w : World} {g : Nat} {l t : List UInt8} (h : Wr w g l t) (u : List UInt8) : Wr (w.setCell ⟨g, 1, none⟩ (.string (B u))) g l u := by
  obtain ⟨v, hB, hO⟩ := h
  exact ⟨v, hB.set_ 1 _, hO.set_ (by omega) 1 _⟩
theorem Wr.lt {w : World} {g : Nat} {l t : List UInt8} (h : Wr w g l t) : g < w.heap.size := by
  obtain ⟨v, hB, hO⟩ := h
  exact hB.lt
theorem Wr.frz {w : World} {g : Nat} {l t : List UInt8} (h : Wr w g l t) : w.frozen? ⟨g, 1, none⟩ = false := by
  obtain ⟨v, hB, hO⟩ := h
  exact hB.fr 1

/-- The frame while an entry is written: the writer, the cell, and what was. -/
structure Fw (w W : World) (g b : Nat) (c : Cel) (l t : List UInt8) : Prop where
  wr : Wr W g l t
  cl : Bk W b 34 (cells c)
  ne : g < b
  kp : KeepT 5 g w W
theorem Fw.old {w W W' : World} {g b : Nat} {c : Cel} {l t : List UInt8} (h : Fw w W g b c l t) (k : Old W W') : Fw w W' g b c l t := ⟨h.wr.old k, h.cl.old k, h.ne, h.kp.old k⟩
theorem Fw.put {w W W' : World} {g b : Nat} {c : Cel} {l t l' t' : List UInt8} (h : Fw w W g b c l t) (hw : Wr W' g l' t') (k : KeepT 5 g W W') : Fw w W' g b c l' t' :=
  ⟨hw, h.cl.keep k (by have := h.ne; omega) (.inr (by decide)), h.ne, h.kp.tr k⟩
theorem Fw.drew {w W : World} {g b : Nat} {c : Cel} {l t : List UInt8} (h : Fw w W g b c l t) : Fw w W.drew g b c l t := h.old (Old.re _).dr
theorem Fw.held {w W : World} {g b : Nat} {c : Cel} {l t : List UInt8} (h : Fw w W g b c l t) : Bk W b 34 (cells c) ∧ W.cell? ⟨b, 4, none⟩ = some (.bool c.del) ∧ W.cell? ⟨b, 5, none⟩ = some (.string (B c.val)) := ⟨h.cl, h.cl.cell 4, h.cl.cell 5⟩

set_option maxHeartbeats 4000000 in
theorem wcell_any (g place : Nat) (l t : List UInt8) (c : Cel) (w : World) (h : Wr w g l t) (hm : mayB c = true) (hok : c.ok) (hp : place ≤ 100000) (hl : l.length ≤ 1000000) (ht : t.length ≤ 1000000) :
    Calls Tryz.prog 76 #[.pointer (some ⟨g, 0, none⟩), .int .i64 place, cv c] w fun e w' => (∃ u, e = .returned u) ∧ Wr w' g (l ++ ent (lend place t) c) (key c) ∧ KeepT 5 g w w' := by
  have hv := (mayB_parts hm).2.2.2.2
  have hk := key_len c hm
  have hsl := (share_le (lend place t) (key c)).2
  have htl : (lend place t).length ≤ 1000000 := by
    unfold lend
    by_cases h : place % 4 = 0
    · rw [if_pos h]; simp
    · rw [if_neg h]; exact ht
  go_enter Tryz.func76, Tryz.ntmps76
  go_wp2_with fail
  have h0 : Fw w (w.alloc (.cells (cells c) 34)) g w.heap.size c l t := ⟨h.old (old_alloc _ _), new_bk _ _ _, h.lt, (KeepT.re _ _ _).al _⟩
  refine (key_yes c _ hm hok).mono ?_
  rintro e w1 ⟨rfl, k⟩
  have h1 := h0.old k
  clear h0 k
  have hla := h1.wr.last
  go_wp2_with fail
  refine (lender_any place t _ (by omega)).mono ?_
  rintro e w2 ⟨rfl, rfl⟩
  go_wp2_with fail
  refine (shared_any (lend place t) (key c) _ (by omega) (by omega)).mono ?_
  rintro e w2 ⟨rfl, k⟩
  have h2 := h1.old k
  clear h1 k hla
  have HE := Lib.hid (show ent (lend place t) c = two (share (lend place t) (key c)) ++ two ((key c).length - share (lend place t) (key c)) ++ (key c).drop (share (lend place t) (key c)) ++ flag1 c.del ++ [UInt8.ofNat c.val.length] ++ c.val from rfl)
  generalize share (lend place t) (key c) = s at *
  generalize hky : key c = ky at *
  have HK := Lib.hid hky
  clear hky
  have hs0 : (s : Int) ≤ (ky.length : Int) := by omega
  go_wp2_with fail
  refine (number2_any g l t s _ h2.wr (by omega)).mono ?_
  rintro e w3 ⟨⟨u3, rfl⟩, i3, k3⟩
  have h3 := h2.put i3 k3
  clear h2 i3 k3
  have xd : (B ky).extract s ky.length = B (ky.drop s) := ext_drop _ _ _ (Nat.le_refl _)
  have hdl : (ky.drop s).length = ky.length - s := by simp
  rw [xd]
  go_wp2_with fail
  refine (number2_any g _ t (ky.length - s) _ h3.wr (by simp; omega)).mono ?_
  rintro e w4 ⟨⟨u4, rfl⟩, i4, k4⟩
  have h4 := h3.put i4 k4
  clear h3 i4 k4
  go_wp2_with fail
  refine (wtext_any g _ t (ky.drop s) _ h4.wr (by simp; omega)).mono ?_
  rintro e w5 ⟨⟨u5, rfl⟩, i5, k5⟩
  have h5 := h4.put i5 k5
  clear h4 i5 k5
  generalize hg5 : l ++ [UInt8.ofNat s, UInt8.ofNat (s / 256)] ++ [UInt8.ofNat (ky.length - s), UInt8.ofNat ((ky.length - s) / 256)] ++ ky.drop s = l5 at *
  have hl5 : l5.length ≤ 1001000 := by rw [← hg5]; simp; omega
  have HG5 := Lib.hid hg5
  clear hg5
  go_wp2_with fail
  go_region_held3 (fun W => Bk W w.heap.size 34 (cells c) ∧ W.cell? ⟨w.heap.size, 4, none⟩ = some (.bool c.del) ∧ W.cell? ⟨w.heap.size, 5, none⟩ = some (.string (B c.val))) (first | exact h5.drew.held | exact h5.held | exact (h5.drew.put i6 k6).held)
    (first
      | (go_at_call 102; refine (wflag_any g l5 t c.del _ h5.drew.wr (by omega)).mono ?_; rintro e w6 ⟨⟨u6, rfl⟩, i6, k6⟩))
  have h6 := h5.drew.put i6 k6
  clear h5 i6 k6
  go_wp2_with fail
  go_region_held3 (fun W => Bk W w.heap.size 34 (cells c) ∧ W.cell? ⟨w.heap.size, 4, none⟩ = some (.bool c.del) ∧ W.cell? ⟨w.heap.size, 5, none⟩ = some (.string (B c.val))) (first | exact h6.drew.held | exact h6.held | exact (h6.drew.put i7 k7).held)
    (first
      | (go_at_call 75; refine (number1_any g (l5 ++ flag1 c.del) t c.val.length _ h6.drew.wr (by simp [flag1_len]; omega)).mono ?_; rintro e w7 ⟨⟨u7, rfl⟩, i7, k7⟩))
  have h7 := h6.drew.put i7 k7
  clear h6 i7 k7
  go_wp2_with fail
  go_region_held3 (fun W => Bk W w.heap.size 34 (cells c) ∧ W.cell? ⟨w.heap.size, 4, none⟩ = some (.bool c.del) ∧ W.cell? ⟨w.heap.size, 5, none⟩ = some (.string (B c.val))) (first | exact h7.drew.held | exact h7.held | exact (h7.drew.put i8 k8).held)
    (first
      | (go_at_call 101; refine (wtext_any g (l5 ++ flag1 c.del ++ [UInt8.ofNat c.val.length]) t c.val _ h7.drew.wr (by simp [flag1_len]; omega)).mono ?_; rintro e w8 ⟨⟨u8, rfl⟩, i8, k8⟩))
  have h8 := h7.drew.put i8 k8
  clear h7 i8 k8
  have hla := h8.wr.last
  have hfz := h8.wr.frz
  go_wp2_with fail
  refine bodyPost_end (results_none rfl _ _ _) rfl ⟨⟨_, rfl⟩, ?_, h8.kp.st 1 _⟩
  rw [HE.out, HK.out]
  have e : l ++ (two s ++ two (ky.length - s) ++ ky.drop s ++ flag1 c.del ++ [UInt8.ofNat c.val.length] ++ c.val) = l5 ++ flag1 c.del ++ [UInt8.ofNat c.val.length] ++ c.val := by
    rw [← HG5.out]; simp [two]
  rw [e]
  exact h8.wr.setLast ky
end Go.Proofs.YtlmlopdakbbbjaaGreatDoor
