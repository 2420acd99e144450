/-
  The statements' anchor: shown answers true. No conditions.
-/
import Derived.Test.YthdpiagnjakjiaaBack
namespace Go.Proofs.Ythdpiagnjakjiaa
open Go.RowKit

def cA : Cel := ⟨[114], [99], 5, 0, false, [118]⟩
def cB : Cel := ⟨[114], [99], 4, 0, false, []⟩
theorem cA_ok : cA.ok := by unfold cA Cel.ok; decide
theorem cA_may : mayB cA = true := by decide
theorem add_B (a b : List UInt8) : B a ++ B b = B (a ++ b) := by
  apply ByteArray.ext
  simp [B]

set_option maxHeartbeats 4000000 in
theorem shown_any (w : World) : Calls Try.prog 12 #[] w fun e w' => e = .returned (.bool true) ∧ Old w w' := by
  have hl : (enc cA).length ≤ 1000 := by decide
  go_enter Try.func12, Try.ntmps12
  go_wp2_with fail
  have o0 : Old w ((w.alloc (.cells (cells cA) 24)).alloc (.cells (cells cB) 24)) := ((Old.re _).al _).al _
  have bA := (new_bk w 24 (cells cA)).alloc (.cells (cells cB) 24)
  have bB := new_bk1 w (.cells (cells cA) 24) 24 (cells cB)
  refine (encode_yes cA _ cA_may cA_ok).mono ?_
  rintro r w1 ⟨rfl, h1⟩
  have o1 := o0.tr h1
  have bA := bA.old h1
  have bB := bB.old h1
  clear h1 o0
  go_wp2_with fail
  rw [show B (enc cA) ++ ⟨#[120]⟩ = B (enc cA ++ [120]) from add_B _ [120]]
  refine (decode_any (enc cA ++ [120]) _ (by simp; omega)).mono ?_
  rintro r w2 ⟨rfl, h1⟩
  have o2 := o1.tr h1
  have bA := bA.old h1
  have bB := bB.old h1
  clear h1 o1
  rw [decV_enc cA [120] cA_may cA_ok]
  go_upto_region 5 with (fail)
  have bC := new_bk w2 24 (cells cA)
  have bA := bA.alloc (.cells (cells cA) 24)
  have bB := bB.alloc (.cells (cells cA) 24)
  have o3 := o2.al (.cells (cells cA) 24)
  generalize w2.alloc (.cells (cells cA) 24) = w3 at *
  generalize w2.heap.size = g at *
  clear o2
  have e1 : cmpC cA cB = -1 := by decide
  have e2 : cmpC cB cA = 1 := by decide
  have e3 : eqB cA cA = true := by decide
  have e4 : (key cA).length = 22 := by decide
  have H1 := Lib.hid e1
  have H2 := Lib.hid e2
  have H3 := Lib.hid e3
  have H4 := Lib.hid e4
  clear e1 e2 e3 e4
  obtain ⟨a0, a1, a2, a3, a4, a5⟩ := bA.six
  obtain ⟨b0, b1, b2, b3, b4, b5⟩ := bB.six
  go_wp2_with fail
  refine (cmp_any cA cB _).mono ?_
  rintro r w4 ⟨rfl, h1⟩
  rw [H1.out]
  have o4 := o3.tr h1
  have bA := bA.old h1
  have bB := bB.old h1
  have bC := bC.old h1
  clear h1 o3 a0 a1 a2 a3 a4 a5 b0 b1 b2 b3 b4 b5
  obtain ⟨a0, a1, a2, a3, a4, a5⟩ := bA.six
  obtain ⟨b0, b1, b2, b3, b4, b5⟩ := bB.six
  go_wp2_with fail
  refine (cmp_any cB cA _).mono ?_
  rintro r w5 ⟨rfl, h1⟩
  rw [H2.out]
  have o5 := o4.tr h1
  have bA := bA.old h1
  have bB := bB.old h1
  have bC := bC.old h1
  clear h1 o4 a0 a1 a2 a3 a4 a5 b0 b1 b2 b3 b4 b5
  obtain ⟨a0, a1, a2, a3, a4, a5⟩ := bA.six
  obtain ⟨b0, b1, b2, b3, b4, b5⟩ := bC.six
  go_wp2_with fail
  refine (may_any cA _).mono ?_
  rintro r w6 ⟨rfl, h1⟩
  rw [cA_may]
  have o6 := o5.tr h1
  have bA := bA.old h1
  clear h1 o5 a0 a1 a2 a3 a4 a5 b0 b1 b2 b3 b4 b5 bB bC
  obtain ⟨a0, a1, a2, a3, a4, a5⟩ := bA.six
  go_wp2_with fail
  refine (key_yes cA _ cA_may cA_ok).mono ?_
  rintro r w7 ⟨rfl, h1⟩
  have o7 := o6.tr h1
  have e4 := H4.out
  go_wp2
  go_ret
  exact ⟨rfl, o7⟩
end Go.Proofs.Ythdpiagnjakjiaa
