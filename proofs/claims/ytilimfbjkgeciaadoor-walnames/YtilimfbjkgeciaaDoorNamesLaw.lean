/-
  WalNames: whatever four texts come in, the law answers true, and leaves all as it was. Condition: the table is laid as the program's text lays it.
-/
import Derived.Test.YtilimfbjkgeciaaDoorWMad
import Derived.Test.YtilimfbjkgeciaaDoorWPln
namespace Go.Proofs.YtilimfbjkgeciaaDoor
open Go.ChangeShapes Go.WideShapes Go.ChangeAt Go.RowKit Go.Joins Go.Deep Go.Maps Go.Shelf
set_option maxRecDepth 100000

theorem open_bad {w w1 : World} {d : Nat} {p : Pd} {x : List UInt8} (h : Lw w w1 d p) (ht : Tab w) (hx : x.length ≤ 1000) (hc : p.cap ≤ 1000000) (hb : bad59 x = true) :
    Calls Tryd.prog 10 #[ptr d, .string (B x)] w1 fun e w2 => e = .returned (.tuple #[.pointer none, .slice none 0 0, .int .i64 1]) ∧ Lw w w2 d p ∧ (∀ lb, Kl w1 w2 lb) := by
  have hr : popen p x = (p, [], 1) := by unfold popen; rw [if_pos hb]
  refine (open_lw h ht hx hc).mono ?_
  rw [hr]
  rintro e w2 ⟨h1, -, h3, ⟨z, -⟩ | ⟨-, e1⟩⟩
  · cases z
  · exact ⟨e1, h1, h3⟩
theorem bad59_lo {x : List UInt8} (h : x.length = 0) : bad59 x = true := by unfold bad59; simp [h]
theorem bad59_hi {x : List UInt8} (h : 59 < x.length) : bad59 x = true := by unfold bad59; simp [h]
theorem puts_one (x : List UInt8) : (puts [x]).length = 6 + x.length := by rw [puts_len]; simp [took]

set_option maxHeartbeats 8000000 in
theorem names_00 (a b x y : List UInt8) (lx : x.length ≤ 200) (ly : y.length ≤ 200) (hia : a.length = 0) (hib : b.length = 0) (w : World) (ht : Tab w) :
    Calls Tryd.prog 7 #[.string (B a), .string (B b), .string (B x), .string (B y)] w fun e w' => e = .returned (.bool true) ∧ Old w w' := by
  have a1 : decide ((1 : Int) ≤ (a.length : Int)) = false := by rw [decide_eq_false_iff_not]; omega
  have b1 : decide ((1 : Int) ≤ (b.length : Int)) = false := by rw [decide_eq_false_iff_not]; omega
  have da : decide ((200 : Int) < (a.length : Int)) = false := by simp; omega
  have db : decide ((200 : Int) < (b.length : Int)) = false := by simp; omega
  have dx : decide ((200 : Int) < (x.length : Int)) = false := by simp; omega
  have dy : decide ((200 : Int) < (y.length : Int)) = false := by simp; omega
  go_enter Tryd.func7, Tryd.ntmps7
  go_wp2_with fail
  refine (shown_any _ ht).mono ?_
  rintro e w1 ⟨rfl, k1⟩
  clear da db dx dy
  go_wp2_with fail
  refine (new_lw 100000 (by omega) k1).mono ?_
  rintro e w2 ⟨d, rfl, h1, -⟩
  clear k1
  have H := open_bad (x := a) h1 ht (by omega) (show (100000 : Nat) ≤ 1000000 by decide) (bad59_lo hia)
  clear h1
  go_wp2_with fail
  refine H.mono ?_
  clear H
  rintro e w3 ⟨rfl, h2, -⟩
  have H := open_bad (x := b) h2 ht (by omega) (show (100000 : Nat) ≤ 1000000 by decide) (bad59_lo hib)
  clear h2
  go_wp2_with fail
  refine H.mono ?_
  clear H
  rintro e w4 ⟨rfl, h3, -⟩
  go_wp2
  go_ret
  exact ⟨rfl, h3.old⟩
set_option maxHeartbeats 8000000 in
theorem names_01 (a b x y : List UInt8) (lb0 : b.length ≤ 200) (lx : x.length ≤ 200) (ly : y.length ≤ 200) (hia : a.length = 0) (hib : 59 < b.length) (w : World) (ht : Tab w) :
    Calls Tryd.prog 7 #[.string (B a), .string (B b), .string (B x), .string (B y)] w fun e w' => e = .returned (.bool true) ∧ Old w w' := by
  have a1 : decide ((1 : Int) ≤ (a.length : Int)) = false := by rw [decide_eq_false_iff_not]; omega
  have b1 : decide ((1 : Int) ≤ (b.length : Int)) = true := by rw [decide_eq_true_eq]; omega
  have b2 : decide ((b.length : Int) ≤ 59) = false := by rw [decide_eq_false_iff_not]; omega
  have da : decide ((200 : Int) < (a.length : Int)) = false := by simp; omega
  have db : decide ((200 : Int) < (b.length : Int)) = false := by simp; omega
  have dx : decide ((200 : Int) < (x.length : Int)) = false := by simp; omega
  have dy : decide ((200 : Int) < (y.length : Int)) = false := by simp; omega
  go_enter Tryd.func7, Tryd.ntmps7
  go_wp2_with fail
  refine (shown_any _ ht).mono ?_
  rintro e w1 ⟨rfl, k1⟩
  clear da db dx dy
  go_wp2_with fail
  refine (new_lw 100000 (by omega) k1).mono ?_
  rintro e w2 ⟨d, rfl, h1, -⟩
  clear k1
  have H := open_bad (x := a) h1 ht (by omega) (show (100000 : Nat) ≤ 1000000 by decide) (bad59_lo hia)
  clear h1
  go_wp2_with fail
  refine H.mono ?_
  clear H
  rintro e w3 ⟨rfl, h2, -⟩
  have H := open_bad (x := b) h2 ht (by omega) (show (100000 : Nat) ≤ 1000000 by decide) (bad59_hi hib)
  clear h2
  go_wp2_with fail
  refine H.mono ?_
  clear H
  rintro e w4 ⟨rfl, h3, -⟩
  go_wp2
  go_ret
  exact ⟨rfl, h3.old⟩
set_option maxHeartbeats 8000000 in
theorem names_02 (a b x y : List UInt8) (lx : x.length ≤ 200) (ly : y.length ≤ 200) (hia : a.length = 0) (hib : Nm b) (w : World) (ht : Tab w) :
    Calls Tryd.prog 7 #[.string (B a), .string (B b), .string (B x), .string (B y)] w fun e w' => e = .returned (.bool true) ∧ Old w w' := by
  have hnb1 := hib.lo
  have hnb2 := hib.hi
  have a1 : decide ((1 : Int) ≤ (a.length : Int)) = false := by rw [decide_eq_false_iff_not]; omega
  have b1 : decide ((1 : Int) ≤ (b.length : Int)) = true := by rw [decide_eq_true_eq]; omega
  have b2 : decide ((b.length : Int) ≤ 59) = true := by rw [decide_eq_true_eq]; omega
  have da : decide ((200 : Int) < (a.length : Int)) = false := by simp; omega
  have db : decide ((200 : Int) < (b.length : Int)) = false := by simp; omega
  have dx : decide ((200 : Int) < (x.length : Int)) = false := by simp; omega
  have dy : decide ((200 : Int) < (y.length : Int)) = false := by simp; omega
  go_enter Tryd.func7, Tryd.ntmps7
  go_wp2_with fail
  refine (shown_any _ ht).mono ?_
  rintro e w1 ⟨rfl, k1⟩
  clear da db dx dy
  go_wp2_with fail
  refine (new_lw 100000 (by omega) k1).mono ?_
  rintro e w2 ⟨d, rfl, h1, -⟩
  clear k1
  have H := open_bad (x := a) h1 ht (by omega) (show (100000 : Nat) ≤ 1000000 by decide) (bad59_lo hia)
  clear h1
  go_wp2_with fail
  refine H.mono ?_
  clear H
  rintro e w3 ⟨rfl, h2, -⟩
  obtain ⟨M2, hr2, -, -, -, -⟩ := open_pl0 (cap := 100000) (L := []) hib (by simp) rfl
  have H := open_ok (x := b) h2 ht (by omega) (show (100000 : Nat) ≤ 1000000 by decide) hr2
  clear h2
  go_wp2_with fail
  refine H.mono ?_
  clear H
  rintro e w4 ⟨lb2, A2, cap2, rfl, h3, -, -, -, -, -, -, -⟩
  go_wp2
  go_ret
  exact ⟨rfl, h3.old⟩
set_option maxHeartbeats 8000000 in
theorem names_10 (a b x y : List UInt8) (la : a.length ≤ 200) (lx : x.length ≤ 200) (ly : y.length ≤ 200) (hia : 59 < a.length) (hib : b.length = 0) (w : World) (ht : Tab w) :
    Calls Tryd.prog 7 #[.string (B a), .string (B b), .string (B x), .string (B y)] w fun e w' => e = .returned (.bool true) ∧ Old w w' := by
  have a1 : decide ((1 : Int) ≤ (a.length : Int)) = true := by rw [decide_eq_true_eq]; omega
  have a2 : decide ((a.length : Int) ≤ 59) = false := by rw [decide_eq_false_iff_not]; omega
  have b1 : decide ((1 : Int) ≤ (b.length : Int)) = false := by rw [decide_eq_false_iff_not]; omega
  have da : decide ((200 : Int) < (a.length : Int)) = false := by simp; omega
  have db : decide ((200 : Int) < (b.length : Int)) = false := by simp; omega
  have dx : decide ((200 : Int) < (x.length : Int)) = false := by simp; omega
  have dy : decide ((200 : Int) < (y.length : Int)) = false := by simp; omega
  go_enter Tryd.func7, Tryd.ntmps7
  go_wp2_with fail
  refine (shown_any _ ht).mono ?_
  rintro e w1 ⟨rfl, k1⟩
  clear da db dx dy
  go_wp2_with fail
  refine (new_lw 100000 (by omega) k1).mono ?_
  rintro e w2 ⟨d, rfl, h1, -⟩
  clear k1
  have H := open_bad (x := a) h1 ht (by omega) (show (100000 : Nat) ≤ 1000000 by decide) (bad59_hi hia)
  clear h1
  go_wp2_with fail
  refine H.mono ?_
  clear H
  rintro e w3 ⟨rfl, h2, -⟩
  have H := open_bad (x := b) h2 ht (by omega) (show (100000 : Nat) ≤ 1000000 by decide) (bad59_lo hib)
  clear h2
  go_wp2_with fail
  refine H.mono ?_
  clear H
  rintro e w4 ⟨rfl, h3, -⟩
  go_wp2
  go_ret
  exact ⟨rfl, h3.old⟩
set_option maxHeartbeats 8000000 in
theorem names_11 (a b x y : List UInt8) (la : a.length ≤ 200) (lb0 : b.length ≤ 200) (lx : x.length ≤ 200) (ly : y.length ≤ 200) (hia : 59 < a.length) (hib : 59 < b.length) (w : World) (ht : Tab w) :
    Calls Tryd.prog 7 #[.string (B a), .string (B b), .string (B x), .string (B y)] w fun e w' => e = .returned (.bool true) ∧ Old w w' := by
  have a1 : decide ((1 : Int) ≤ (a.length : Int)) = true := by rw [decide_eq_true_eq]; omega
  have a2 : decide ((a.length : Int) ≤ 59) = false := by rw [decide_eq_false_iff_not]; omega
  have b1 : decide ((1 : Int) ≤ (b.length : Int)) = true := by rw [decide_eq_true_eq]; omega
  have b2 : decide ((b.length : Int) ≤ 59) = false := by rw [decide_eq_false_iff_not]; omega
  have da : decide ((200 : Int) < (a.length : Int)) = false := by simp; omega
  have db : decide ((200 : Int) < (b.length : Int)) = false := by simp; omega
  have dx : decide ((200 : Int) < (x.length : Int)) = false := by simp; omega
  have dy : decide ((200 : Int) < (y.length : Int)) = false := by simp; omega
  go_enter Tryd.func7, Tryd.ntmps7
  go_wp2_with fail
  refine (shown_any _ ht).mono ?_
  rintro e w1 ⟨rfl, k1⟩
  clear da db dx dy
  go_wp2_with fail
  refine (new_lw 100000 (by omega) k1).mono ?_
  rintro e w2 ⟨d, rfl, h1, -⟩
  clear k1
  have H := open_bad (x := a) h1 ht (by omega) (show (100000 : Nat) ≤ 1000000 by decide) (bad59_hi hia)
  clear h1
  go_wp2_with fail
  refine H.mono ?_
  clear H
  rintro e w3 ⟨rfl, h2, -⟩
  have H := open_bad (x := b) h2 ht (by omega) (show (100000 : Nat) ≤ 1000000 by decide) (bad59_hi hib)
  clear h2
  go_wp2_with fail
  refine H.mono ?_
  clear H
  rintro e w4 ⟨rfl, h3, -⟩
  go_wp2
  go_ret
  exact ⟨rfl, h3.old⟩
set_option maxHeartbeats 8000000 in
theorem names_12 (a b x y : List UInt8) (la : a.length ≤ 200) (lx : x.length ≤ 200) (ly : y.length ≤ 200) (hia : 59 < a.length) (hib : Nm b) (w : World) (ht : Tab w) :
    Calls Tryd.prog 7 #[.string (B a), .string (B b), .string (B x), .string (B y)] w fun e w' => e = .returned (.bool true) ∧ Old w w' := by
  have hnb1 := hib.lo
  have hnb2 := hib.hi
  have a1 : decide ((1 : Int) ≤ (a.length : Int)) = true := by rw [decide_eq_true_eq]; omega
  have a2 : decide ((a.length : Int) ≤ 59) = false := by rw [decide_eq_false_iff_not]; omega
  have b1 : decide ((1 : Int) ≤ (b.length : Int)) = true := by rw [decide_eq_true_eq]; omega
  have b2 : decide ((b.length : Int) ≤ 59) = true := by rw [decide_eq_true_eq]; omega
  have da : decide ((200 : Int) < (a.length : Int)) = false := by simp; omega
  have db : decide ((200 : Int) < (b.length : Int)) = false := by simp; omega
  have dx : decide ((200 : Int) < (x.length : Int)) = false := by simp; omega
  have dy : decide ((200 : Int) < (y.length : Int)) = false := by simp; omega
  go_enter Tryd.func7, Tryd.ntmps7
  go_wp2_with fail
  refine (shown_any _ ht).mono ?_
  rintro e w1 ⟨rfl, k1⟩
  clear da db dx dy
  go_wp2_with fail
  refine (new_lw 100000 (by omega) k1).mono ?_
  rintro e w2 ⟨d, rfl, h1, -⟩
  clear k1
  have H := open_bad (x := a) h1 ht (by omega) (show (100000 : Nat) ≤ 1000000 by decide) (bad59_hi hia)
  clear h1
  go_wp2_with fail
  refine H.mono ?_
  clear H
  rintro e w3 ⟨rfl, h2, -⟩
  obtain ⟨M2, hr2, -, -, -, -⟩ := open_pl0 (cap := 100000) (L := []) hib (by simp) rfl
  have H := open_ok (x := b) h2 ht (by omega) (show (100000 : Nat) ≤ 1000000 by decide) hr2
  clear h2
  go_wp2_with fail
  refine H.mono ?_
  clear H
  rintro e w4 ⟨lb2, A2, cap2, rfl, h3, -, -, -, -, -, -, -⟩
  go_wp2
  go_ret
  exact ⟨rfl, h3.old⟩
set_option maxHeartbeats 8000000 in
theorem names_20 (a b x y : List UInt8) (lx : x.length ≤ 200) (ly : y.length ≤ 200) (hia : Nm a) (hib : b.length = 0) (w : World) (ht : Tab w) :
    Calls Tryd.prog 7 #[.string (B a), .string (B b), .string (B x), .string (B y)] w fun e w' => e = .returned (.bool true) ∧ Old w w' := by
  have hna1 := hia.lo
  have hna2 := hia.hi
  have a1 : decide ((1 : Int) ≤ (a.length : Int)) = true := by rw [decide_eq_true_eq]; omega
  have a2 : decide ((a.length : Int) ≤ 59) = true := by rw [decide_eq_true_eq]; omega
  have b1 : decide ((1 : Int) ≤ (b.length : Int)) = false := by rw [decide_eq_false_iff_not]; omega
  have da : decide ((200 : Int) < (a.length : Int)) = false := by simp; omega
  have db : decide ((200 : Int) < (b.length : Int)) = false := by simp; omega
  have dx : decide ((200 : Int) < (x.length : Int)) = false := by simp; omega
  have dy : decide ((200 : Int) < (y.length : Int)) = false := by simp; omega
  go_enter Tryd.func7, Tryd.ntmps7
  go_wp2_with fail
  refine (shown_any _ ht).mono ?_
  rintro e w1 ⟨rfl, k1⟩
  clear da db dx dy
  go_wp2_with fail
  refine (new_lw 100000 (by omega) k1).mono ?_
  rintro e w2 ⟨d, rfl, h1, -⟩
  clear k1
  obtain ⟨M1, hr1, -, -, l1, t1⟩ := open_pl0 (cap := 100000) (L := []) hia (by simp) rfl
  have H := open_ok (x := a) h1 ht (by omega) (show (100000 : Nat) ≤ 1000000 by decide) hr1
  clear h1
  go_wp2_with fail
  refine H.mono ?_
  clear H
  rintro e w3 ⟨lb, A0, cap0, rfl, h2, -, -, -, -, -, -, -⟩
  have H := open_bad (x := b) h2 ht (by omega) (show (100000 : Nat) ≤ 1000000 by decide) (bad59_lo hib)
  clear h2
  go_wp2_with fail
  refine H.mono ?_
  clear H
  rintro e w4 ⟨rfl, h3, -⟩
  go_wp2
  go_ret
  exact ⟨rfl, h3.old⟩
set_option maxHeartbeats 8000000 in
theorem names_21 (a b x y : List UInt8) (lb0 : b.length ≤ 200) (lx : x.length ≤ 200) (ly : y.length ≤ 200) (hia : Nm a) (hib : 59 < b.length) (w : World) (ht : Tab w) :
    Calls Tryd.prog 7 #[.string (B a), .string (B b), .string (B x), .string (B y)] w fun e w' => e = .returned (.bool true) ∧ Old w w' := by
  have hna1 := hia.lo
  have hna2 := hia.hi
  have a1 : decide ((1 : Int) ≤ (a.length : Int)) = true := by rw [decide_eq_true_eq]; omega
  have a2 : decide ((a.length : Int) ≤ 59) = true := by rw [decide_eq_true_eq]; omega
  have b1 : decide ((1 : Int) ≤ (b.length : Int)) = true := by rw [decide_eq_true_eq]; omega
  have b2 : decide ((b.length : Int) ≤ 59) = false := by rw [decide_eq_false_iff_not]; omega
  have da : decide ((200 : Int) < (a.length : Int)) = false := by simp; omega
  have db : decide ((200 : Int) < (b.length : Int)) = false := by simp; omega
  have dx : decide ((200 : Int) < (x.length : Int)) = false := by simp; omega
  have dy : decide ((200 : Int) < (y.length : Int)) = false := by simp; omega
  go_enter Tryd.func7, Tryd.ntmps7
  go_wp2_with fail
  refine (shown_any _ ht).mono ?_
  rintro e w1 ⟨rfl, k1⟩
  clear da db dx dy
  go_wp2_with fail
  refine (new_lw 100000 (by omega) k1).mono ?_
  rintro e w2 ⟨d, rfl, h1, -⟩
  clear k1
  obtain ⟨M1, hr1, -, -, l1, t1⟩ := open_pl0 (cap := 100000) (L := []) hia (by simp) rfl
  have H := open_ok (x := a) h1 ht (by omega) (show (100000 : Nat) ≤ 1000000 by decide) hr1
  clear h1
  go_wp2_with fail
  refine H.mono ?_
  clear H
  rintro e w3 ⟨lb, A0, cap0, rfl, h2, -, -, -, -, -, -, -⟩
  have H := open_bad (x := b) h2 ht (by omega) (show (100000 : Nat) ≤ 1000000 by decide) (bad59_hi hib)
  clear h2
  go_wp2_with fail
  refine H.mono ?_
  clear H
  rintro e w4 ⟨rfl, h3, -⟩
  go_wp2
  go_ret
  exact ⟨rfl, h3.old⟩
set_option maxHeartbeats 8000000 in
theorem names_22 (a b x y : List UInt8) (lx : x.length ≤ 200) (ly : y.length ≤ 200) (hia : Nm a) (hib : Nm b) (w : World) (ht : Tab w) :
    Calls Tryd.prog 7 #[.string (B a), .string (B b), .string (B x), .string (B y)] w fun e w' => e = .returned (.bool true) ∧ Old w w' := by
  have hna1 := hia.lo
  have hna2 := hia.hi
  have hnb1 := hib.lo
  have hnb2 := hib.hi
  have a1 : decide ((1 : Int) ≤ (a.length : Int)) = true := by rw [decide_eq_true_eq]; omega
  have a2 : decide ((a.length : Int) ≤ 59) = true := by rw [decide_eq_true_eq]; omega
  have b1 : decide ((1 : Int) ≤ (b.length : Int)) = true := by rw [decide_eq_true_eq]; omega
  have b2 : decide ((b.length : Int) ≤ 59) = true := by rw [decide_eq_true_eq]; omega
  have da : decide ((200 : Int) < (a.length : Int)) = false := by simp; omega
  have db : decide ((200 : Int) < (b.length : Int)) = false := by simp; omega
  have dx : decide ((200 : Int) < (x.length : Int)) = false := by simp; omega
  have dy : decide ((200 : Int) < (y.length : Int)) = false := by simp; omega
  go_enter Tryd.func7, Tryd.ntmps7
  go_wp2_with fail
  refine (shown_any _ ht).mono ?_
  rintro e w1 ⟨rfl, k1⟩
  clear da db dx dy
  go_wp2_with fail
  refine (new_lw 100000 (by omega) k1).mono ?_
  rintro e w2 ⟨d, rfl, h1, -⟩
  clear k1
  obtain ⟨M1, hr1, f1, -, l1, t1⟩ := open_pl0 (cap := 100000) (L := []) hia (by simp) rfl
  have H := open_ok (x := a) h1 ht (by omega) (show (100000 : Nat) ≤ 1000000 by decide) hr1
  clear h1 hr1
  go_wp2_with fail
  refine H.mono ?_
  clear H
  rintro e w3 ⟨lb, A0, cap0, rfl, h2, -, -, q1, q1', q2, -, -⟩
  obtain ⟨M2, hr2, f2, g2, l2, t2⟩ := open_pl0 (cap := 100000) (L := M1) hib (by simp at l1; omega) t1
  have H := open_ok (x := b) h2 ht (by omega) (show (100000 : Nat) ≤ 1000000 by decide) hr2
  clear h2 hr2
  go_wp2_with fail
  refine H.mono ?_
  clear H
  rintro e w4 ⟨lb2, A2, cap2, rfl, h3, -, kl, r1, r1', r2, -, -⟩
  have hne : lb ≠ lb2 := fun e => by have := q2.lt; omega
  have q3 : Lg w4 lb d a _ _ := kl (lb + 1) _ _ q2 (by omega)
  have ha1 : B b ++ ⟨#[43]⟩ = B (side b) := add_B b [43]
  have ha2 : B a ++ ⟨#[43]⟩ = B (side a) := add_B a [43]
  have i1 : ¬ 9223372036854775807 < b.length + 1 := by omega
  have i2 : ¬ 9223372036854775807 < a.length + 1 := by omega
  clear q2 kl q1' r1'
  by_cases e1 : a = b
  · have e1b : (a == b) = true := by simpa using e1
    clear e1
    go_wp2
    go_ret
    exact ⟨rfl, h3.old⟩
  have e1b : (a == b) = false := by simpa using e1
  by_cases e2 : a = side b
  · have e2b : (a == side b) = true := by simpa using e2
    clear e2
    go_wp2
    go_ret
    exact ⟨rfl, h3.old⟩
  have e2b : (a == side b) = false := by simpa using e2
  by_cases e3 : b = side a
  · have e3b : (b == side a) = true := by simpa using e3
    clear e3
    go_wp2
    go_ret
    exact ⟨rfl, h3.old⟩
  have e3b : (b == side a) = false := by simpa using e3
  have hl2 : M2.length ≤ 2 := by simp at l1; omega
  obtain ⟨n1, f1⟩ := f1
  obtain ⟨n2, f2⟩ := f2
  have f1' : pfnd M2 a = some ⟨a, puts [], n1⟩ := by rw [g2 a e1 e2]; exact f1
  have hpx := puts_one x
  have hpy := puts_one y
  have sx : ∀ t ∈ [x], t.length ≤ 1000000 := fun t h => by rw [List.mem_singleton.1 h]; omega
  have sy : ∀ t ∈ [y], t.length ≤ 1000000 := fun t h => by rw [List.mem_singleton.1 h]; omega
  obtain ⟨M3, hr3, ⟨n3, f3⟩, g3, l3, t3⟩ := append_pl (cap := 100000) (U := [x]) hia (fun t h => by rw [List.mem_singleton.1 h]; omega) f1' (by omega) 0
  have b3 : ptot M3 ≤ 2 * 206 := by have := Nat.mul_le_mul hl2 (show (puts [x]).length ≤ 206 by omega); omega
  obtain ⟨M4, hr4, ⟨n4, f4⟩, g4, l4, t4⟩ := append_pl (cap := 100000) (T := []) (U := [y]) hib (fun t h => by rw [List.mem_singleton.1 h]; omega) (show pfnd M3 b = some ⟨b, puts [], n2⟩ by rw [g3 b (fun h => e1 h.symm)]; exact f2) (by omega) 0
  have b4 : ptot M4 ≤ 4 * 206 := by have := Nat.mul_le_mul (show M3.length ≤ 2 by omega) (show (puts [y]).length ≤ 206 by omega); omega
  obtain ⟨M5, hr5, ⟨n5, f5⟩, g5, l5, t5⟩ := append_pl (cap := 100000) (U := [y]) hia (fun t h => by rw [List.mem_singleton.1 h]; omega) (show pfnd M4 a = some ⟨a, puts ([] ++ [x]), n3⟩ by rw [g4 a e1]; exact f3) (by omega) (0 + [x].length)
  have ht5 : ∀ t ∈ [] ++ [x] ++ [y], t.length ≤ 65535 := fun t h => by simp at h; rcases h with rfl | rfl <;> omega
  have ht6 : ∀ t ∈ [] ++ [y], t.length ≤ 65535 := fun t h => by simp at h; subst h; omega
  obtain ⟨M6, hr6, -, g6, -, -⟩ := open_pl (cap := 100000) hia ht5 f5
  obtain ⟨M7, hr7, -, -, -, -⟩ := open_pl (cap := 100000) hib ht6 (show pfnd M6 b = some ⟨b, puts ([] ++ [y]), n4⟩ by rw [g6 b (fun h => e1 h.symm), g5 b (fun h => e1 h.symm)]; exact f4)
  have hx3 : a.length ≤ 1000 := by omega
  have hx4 : b.length ≤ 1000 := by omega
  have HX := Lib.hid sx
  have HY := Lib.hid sy
  have HR3 := Lib.hid hr3
  have HR4 := Lib.hid hr4
  have HR5 := Lib.hid hr5
  have HR6 := Lib.hid hr6
  have HR7 := Lib.hid hr7
  have HE := Lib.hid hne
  clear e1 e2 e3 f1 f2 f1' f3 f4 f5 g2 g3 g4 g5 g6 hr3 hr4 hr5 hr6 hr7 t3 t4 t5 b3 b4 l1 l2 l3 l4 l5 t1 t2 hl2 hpx hpy ht5 ht6 hna1 hna2 hnb1 hnb2 hne sx sy
  have o4 := old_alloc w4 (.cells #[.string (B x)] 9)
  have H := append_ok' (h3.go o4) ht q1 (q3.old o4) hx3 (by decide) (by simp) HX.out (strs_any [x] HX.out (new_bk w4 _ _)) HR3.out
  have r3 := r2.old o4
  clear h3 q3 o4 r2
  go_wp2_with fail
  refine H.mono ?_
  clear H
  rintro e w5 ⟨rfl, h5, q5, -, kl⟩
  have r5 : Lg w5 lb2 d b _ _ := kl lb2 _ r3 HE.out.symm
  clear r3 kl
  have o5 := old_alloc w5 (.cells #[.string (B y)] 9)
  have H := append_ok' (h5.go o5) ht r1 (r5.old o5) hx4 (by decide) (by simp) HY.out (strs_any [y] HY.out (new_bk w5 _ _)) HR4.out
  have q6 := q5.old o5
  clear h5 q5 o5 r5
  go_wp2_with fail
  refine H.mono ?_
  clear H
  rintro e w6 ⟨rfl, h6, -, -, kl⟩
  have q7 : Lg w6 lb d a _ _ := kl lb _ q6 HE.out
  clear q6 kl
  have o6 := old_alloc w6 (.cells #[.string (B y)] 9)
  have H := append_ok' (h6.go o6) ht q1 (q7.old o6) hx3 (by simp) (by simp) HY.out (strs_any [y] HY.out (new_bk w6 _ _)) HR5.out
  clear h6 q7 o6
  go_wp2_with fail
  refine H.mono ?_
  clear H
  rintro e w7 ⟨rfl, h7, -, -, -⟩
  have H := open_ok h7 ht hx3 (show (100000 : Nat) ≤ 1000000 by decide) HR6.out
  clear h7
  go_wp2_with fail
  refine H.mono ?_
  clear H
  rintro e w8 ⟨lb3, A3, cap3, rfl, h8, kr, -, -, -, -, hS3, hO3⟩
  have H := open_ok h8 ht hx4 (show (100000 : Nat) ≤ 1000000 by decide) HR7.out
  clear h8 kr
  go_wp2_with fail
  refine H.mono ?_
  clear H
  rintro e w9 ⟨lb4, A4, cap4, rfl, h9, kr, -, -, -, -, hS4, -⟩
  have hxy : ∀ t ∈ [x, y], t.length ≤ 1000000 := fun t h => by simp at h; rcases h with rfl | rfl <;> omega
  have hS5 := (hO3.kr kr).strs hxy
  clear kr hO3 hS3
  have o9 := old_alloc w9 (.cells #[.string (B x), .string (B y)] 9)
  have H := same_texts [x, y] [x, y] A3 _ cap3 _ (by simp) (by simp) _ (hS5.old o9) (strs_any [x, y] hxy (new_bk w9 _ _)) true (by simp)
  go_wp2_with fail
  refine H.mono ?_
  clear H
  rintro e w10 ⟨rfl, o10⟩
  have o11 := o9.tr o10
  have o12 := old_alloc w10 (.cells #[.string (B y)] 9)
  have H := same_texts [y] [y] A4 _ cap4 _ (by simp) (by simp) _ (hS4.old (o11.tr o12)) (strs_any [y] HY.out (new_bk w10 _ _)) true (by simp)
  have hO := (h9.old.tr o11).tr o12
  clear h9 hS4 hS5 o9 o10 o11 o12
  go_wp2_with fail
  refine H.mono ?_
  rintro e w13 ⟨rfl, o13⟩
  go_wp2
  go_ret
  exact ⟨rfl, hO.tr o13⟩
set_option maxHeartbeats 8000000 in
theorem law_names (a b x y : List UInt8) (la : a.length ≤ maxLen) (lb : b.length ≤ maxLen) (lx : x.length ≤ maxLen) (ly : y.length ≤ maxLen) (w : World) (ht : Tab w) :
    Calls Tryd.prog 7 #[.string (B a), .string (B b), .string (B x), .string (B y)] w fun e w' => e = .returned (.bool true) ∧ Old w w' := by
  unfold maxLen at la lb lx ly
  have three : ∀ s : List UInt8, s.length = 0 ∨ 59 < s.length ∨ Nm s := fun s => by
    rcases Nat.eq_zero_or_pos s.length with h | h
    · exact .inl h
    · rcases Nat.lt_or_ge 59 s.length with h2 | h2
      · exact .inr (.inl h2)
      · exact .inr (.inr ⟨h, h2⟩)
  have HT := Lib.hid three
  clear three
  by_cases ha : a.length ≤ 200
  case neg =>
    have da : decide ((200 : Int) < (a.length : Int)) = true := by simp; omega
    go_enter Tryd.func7, Tryd.ntmps7
    go_wp2_with (go_at_call 8; refine (shown_any _ ht).mono ?_; rintro e w1 ⟨rfl, k1⟩)
    go_ret
    exact ⟨rfl, k1⟩
  by_cases hb : b.length ≤ 200
  case neg =>
    have da : decide ((200 : Int) < (a.length : Int)) = false := by simp; omega
    have db : decide ((200 : Int) < (b.length : Int)) = true := by simp; omega
    go_enter Tryd.func7, Tryd.ntmps7
    go_wp2_with (go_at_call 8; refine (shown_any _ ht).mono ?_; rintro e w1 ⟨rfl, k1⟩)
    go_ret
    exact ⟨rfl, k1⟩
  by_cases hx : x.length ≤ 200
  case neg =>
    have da : decide ((200 : Int) < (a.length : Int)) = false := by simp; omega
    have db : decide ((200 : Int) < (b.length : Int)) = false := by simp; omega
    have dx : decide ((200 : Int) < (x.length : Int)) = true := by simp; omega
    go_enter Tryd.func7, Tryd.ntmps7
    go_wp2_with (go_at_call 8; refine (shown_any _ ht).mono ?_; rintro e w1 ⟨rfl, k1⟩)
    go_ret
    exact ⟨rfl, k1⟩
  by_cases hy : y.length ≤ 200
  case neg =>
    have da : decide ((200 : Int) < (a.length : Int)) = false := by simp; omega
    have db : decide ((200 : Int) < (b.length : Int)) = false := by simp; omega
    have dx : decide ((200 : Int) < (x.length : Int)) = false := by simp; omega
    have dy : decide ((200 : Int) < (y.length : Int)) = true := by simp; omega
    go_enter Tryd.func7, Tryd.ntmps7
    go_wp2_with (go_at_call 8; refine (shown_any _ ht).mono ?_; rintro e w1 ⟨rfl, k1⟩)
    go_ret
    exact ⟨rfl, k1⟩
  rcases HT.out a with h1 | h1 | h1 <;> rcases HT.out b with h2 | h2 | h2
  · exact names_00 a b x y hx hy h1 h2 w ht
  · exact names_01 a b x y hb hx hy h1 h2 w ht
  · exact names_02 a b x y hx hy h1 h2 w ht
  · exact names_10 a b x y ha hx hy h1 h2 w ht
  · exact names_11 a b x y ha hb hx hy h1 h2 w ht
  · exact names_12 a b x y ha hx hy h1 h2 w ht
  · exact names_20 a b x y hx hy h1 h2 w ht
  · exact names_21 a b x y hb hx hy h1 h2 w ht
  · exact names_22 a b x y hx hy h1 h2 w ht

set_option maxRecDepth 100000 in
theorem walNames_contract (H : Type) (enc : TypeId × Value → H) (W : World) (base : Nat) (args : Array Value) (ds gs : List (DataW H)) (before : List MemPlace)
    (hval0 : ∀ (j : Nat) t v, Tryd.f7.params[j]? = some t → args[j]? = some v → Value.okWide Tryd.prog W .any base t v)
    (hW : DataW.Whole enc Tryd.prog Tryd.f7.params.toList Rows.walNamesSpec.vars false W args.toList ds gs before) (hL : laidMetH Tryd.prog Rows.walNamesRow.laid W) :
    Calls Tryd.prog 7 args W fun e W' => ∃ v, e = .returned v ∧ Rows.walNamesSpec.post enc Tryd.prog Tryd.f7 false true false false W args v W' := by
  have ht : Tab W := table hL
  have hval : ∀ (j : Nat) t v, Tryd.f7.params[j]? = some t → args[j]? = some v → Value.okWide Tryd.prog W .any base t v := hval0
  have hW' := hW
  obtain ⟨p, q, hA0, hV, rfl, hfz, hnd⟩ := hW
  have hA : DataW.TrodAll enc Tryd.prog W 0 (fun _ => true) true Tryd.f7.params.toList args.toList ds p := hA0
  rw [Tryd.params7] at hA hval
  obtain ⟨v0, v1, v2, v3, d0, d1, d2, d3, p0, p1, p2, p3, rfl, rfl, rfl, h0, h1, h2, h3⟩ := trodAll_four' hA
  obtain ⟨rfl, rfl⟩ := trodVars_none hV
  have hlt : ∀ x ∈ p0 ++ (p1 ++ (p2 ++ (p3))), x.block < W.heap.size := fun x hx => hW'.lt x (by simpa using hx)
  have k0 := h0
  have k1 := h1
  have k2 := h2
  have k3 := h3
  obtain ⟨a0, rfl, o0⟩ := open_str (hval 0 9 v0 rfl rfl) h0
  obtain ⟨a1, rfl, o1⟩ := open_str (hval 1 9 v1 rfl rfl) h1
  obtain ⟨a2, rfl, o2⟩ := open_str (hval 2 9 v2 rfl rfl) h2
  obtain ⟨a3, rfl, o3⟩ := open_str (hval 3 9 v3 rfl rfl) h3
  clear hA0 hval0
  refine (law_names a0 a1 a2 a3 o0 o1 o2 o3 W ht).mono fun e W' ⟨he, hb⟩ => ?_
  subst he
  refine ⟨_, rfl, _, _, _, [], p0 ++ (p1 ++ (p2 ++ (p3))), [], hW', trodAll_mk1 (shut_bool Tryd.underlying4 _), ?_, rfl, hb.frame _, fun h => by cases h⟩
  have r0 := Below.trod Tryd.laidOut (by kernel_rfl) (of_decide_eq_true (by kernel_rfl)) k0 hb (fun x hx => hlt x (by simp [hx]))
  have r1 := Below.trod Tryd.laidOut (by kernel_rfl) (of_decide_eq_true (by kernel_rfl)) k1 hb (fun x hx => hlt x (by simp [hx]))
  have r2 := Below.trod Tryd.laidOut (by kernel_rfl) (of_decide_eq_true (by kernel_rfl)) k2 hb (fun x hx => hlt x (by simp [hx]))
  have r3 := Below.trod Tryd.laidOut (by kernel_rfl) (of_decide_eq_true (by kernel_rfl)) k3 hb (fun x hx => hlt x (by simp [hx]))
  exact trodAll_mk4 r0 r1 r2 r3

set_option maxRecDepth 100000 in
theorem walNames_met (os : Os) : laidMet Tryd.prog Rows.walNamesRow.laid ((laidWorld os).forCall (fun _ _ => 0) ⟨#[], #[.string ByteArray.empty, .string ByteArray.empty, .string ByteArray.empty, .string ByteArray.empty], []⟩).memory :=
  laidMet_of_run' 8 (by kernel_rfl) (by kernel_rfl)
set_option maxRecDepth 100000 in
theorem walNames_reads (os : Os) {H : Type} (enc : TypeId × Value → H) : ∃ places, DataW.whole enc Tryd.prog ((laidWorld os).forCall (fun _ _ => 0) ⟨#[], #[.string ByteArray.empty, .string ByteArray.empty, .string ByteArray.empty, .string ByteArray.empty], []⟩).memory Tryd.f7.params.toList Rows.walNamesSpec.vars false (#[.string ByteArray.empty, .string ByteArray.empty, .string ByteArray.empty, .string ByteArray.empty] : Array Value).toList 8 = some ([.lit (.string []), .lit (.string []), .lit (.string []), .lit (.string [])], [], places) :=
  ⟨[], by kernel_rfl⟩

set_option maxRecDepth 100000 in
theorem walNames_lifted (os : Os) (started : os.Started) (H : Type) (enc : TypeId × Value → H) (F : Stop.Interp) :
    ReturnsInHanded {} Tryd.checked os 7 .any ((OpenSpec.ofChange Rows.walNamesSpec).preRow enc Tryd.prog Tryd.f7 Rows.walNamesRow.domain false Rows.walNamesRow.laid) (((OpenSpec.ofChange Rows.walNamesSpec).at F).post enc Tryd.prog Tryd.f7 false true false false) := by
  obtain ⟨places, hx⟩ := walNames_reads os enc
  refine returnsInHanded_of_row (C := Tryd.checked) (s := OpenSpec.ofChange Rows.walNamesSpec) Tryd.own started (by kernel_rfl) Tryd.func7
    (witness_row_at (enc := enc) (C := Tryd.checked) false (laidWorld os) #[.string ByteArray.empty, .string ByteArray.empty, .string ByteArray.empty, .string ByteArray.empty] rfl (by kernel_rfl) (by kernel_rfl) (by kernel_rfl)
      (OpenSpec.preRow_of_cond 8 hx (by kernel_rfl) (fun k hk => by cases hk) (by kernel_rfl) (walNames_met os))) ?_
  intro W base args ds gs before hval hW _ _ _ hL _ _
  exact walNames_contract H enc W base args ds gs before hval hW hL

set_option maxRecDepth 100000 in
theorem walNames_said : Rows.WalNamesSaid :=
  OpenClaim.holds_of_cond 7 Tryd.f7 rfl rfl rfl rfl rfl rfl rfl ⟨rfl, rfl, rfl, rfl, rfl⟩ rfl rfl rfl rfl rfl (by kernel_rfl) Tryd.func7 (by kernel_rfl)
    (of_decide_eq_true (by kernel_rfl)) (by unfold Func.isWrapper; first | (rw [if_pos (by decide +kernel)]; kernel_rfl) | (rw [if_neg (by decide +kernel)]; exact ⟨rfl, rfl⟩))
    (fun os started H enc _ F => by rw [OpenClaim.pre_eq_preRow]; exact walNames_lifted os started H enc F)

set_option maxRecDepth 100000 in
theorem walNames_plain (f : FuncId) (fn : Func) (hf : Tryd.pinned.checked.prog.funcNamed Rows.walNamesRow.func = some f) (hfn : Tryd.pinned.checked.prog.funcs[f]? = some fn) :
    false = Tryd.pinned.checked.prog.looks [] ∧ ∀ (j : Nat) t, fn.params[j]? = some t → Tryd.pinned.checked.prog.wantsStandIn t = false := by
  obtain rfl : f = 7 := Option.some.inj ((show Tryd.prog.funcNamed Rows.walNamesRow.func = some 7 by kernel_rfl).symm.trans hf) |>.symm
  obtain rfl : fn = Tryd.f7 := (Option.some.inj (Tryd.func7.symm.trans hfn)).symm
  refine ⟨by kernel_rfl, fun j t ht => ?_⟩
  rw [Tryd.params7] at ht
  have hm := Array.mem_of_getElem? ht
  simp only [List.mem_toArray, List.mem_cons, List.not_mem_nil, or_false] at hm
  rcases hm with rfl | rfl | rfl | rfl
  all_goals first
    | exact (show Tryd.prog.wantsStandIn 9 = false by kernel_rfl)

set_option maxRecDepth 100000 in
theorem walNames_card : Rows.WalNamesCardSaid :=
  Claim7.holds_tied_plain_at .later [] _ _ _ _ walNames_said (fun _ h => by cases h) (by kernel_rfl) (fun _ h => by cases h) walNames_row_tie rfl ⟨rfl, rfl⟩ (by kernel_rfl) rfl walNames_plain (by kernel_rfl)
#print axioms walNames_card
end Go.Proofs.YtilimfbjkgeciaaDoor
