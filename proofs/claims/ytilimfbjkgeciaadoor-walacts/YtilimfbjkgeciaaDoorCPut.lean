/-
  Put and Get of the code: what they answer, as plain lists of bytes. Conditions: the table is laid; lengths as written.
-/
import Derived.Test.YtilimfbjkgeciaaDoorCG
import Derived.Test.YtilimfbjkgeciaaDoorVG
namespace Go.Proofs.YtilimfbjkgeciaaDoor
set_option maxRecDepth 100000
open Go.RowKit

theorem ext_B (l : List UInt8) (a b : Nat) : (B l).extract a b = B ((l.drop a).take (b - a)) := by
  apply ByteArray.ext
  simp [B, ByteArray.data_extract]
theorem ext_drop (l : List UInt8) (n m : Nat) (h : l.length ≤ m) : (B l).extract n m = B (l.drop n) := by
  rw [ext_B, List.take_of_length_le (by simp; omega)]

/-- A text with its length and its sum ahead. -/
def c_put (l : List UInt8) : List UInt8 := low2 l.length ++ low4 (sumL (low2 l.length ++ l)) ++ l
theorem put_length (l : List UInt8) : (c_put l).length = 6 + l.length := by simp [c_put, low2, low4]; omega

set_option maxHeartbeats 1000000 in
theorem put_no (l : List UInt8) (h : 65535 < l.length) (hl : l.length ≤ 1000000) (w : World) :
    Calls Tryd.prog 83 #[.string (B l)] w fun e w' => e = .returned (.tuple #[.string (B []), .int .i64 71]) ∧ w = w' := by
  go_enter Tryd.func83, Tryd.ntmps83
  go_wp2
  go_ret2
  exact ⟨rfl, rfl⟩

set_option maxHeartbeats 1000000 in
theorem put_yes (l : List UInt8) (h : l.length ≤ 65535) (w : World) (ht : Tab w) :
    Calls Tryd.prog 83 #[.string (B l)] w fun e w' => e = .returned (.tuple #[.string (B (c_put l)), .int .i64 0]) ∧ Old w w' := by
  go_enter Tryd.func83, Tryd.ntmps83
  go_wp2_with fail
  refine (low2_any l.length _).mono ?_
  rintro e w1 ⟨rfl, h1⟩
  have HP := Lib.hid (show c_put l = low2 l.length ++ low4 (sumL (low2 l.length ++ l)) ++ l from rfl)
  have ha : (low2 l.length).length = 2 := rfl
  generalize low2 l.length = a at *
  go_wp2_with fail
  refine (sumOf_any a l (by omega) (by omega) _ (ht.old h1)).mono ?_
  rintro e w2 ⟨rfl, rfl⟩
  have hs : sumL (a ++ l) < 4294967296 := more_lt _ _
  generalize sumL (a ++ l) = n at *
  go_wp2_with fail
  refine (low4_any _ hs _).mono ?_
  rintro e w2 ⟨rfl, h2⟩
  have hb : (low4 n).length = 4 := rfl
  generalize low4 n = b at *
  go_wp2
  go_ret2
  refine ⟨?_, h1.tr h2⟩
  show Ending.returned (.tuple #[.string (B a ++ B b ++ B l), .int .i64 0]) = _
  rw [HP.out, add_B, add_B]

/-- What Get tells: the text, how many bytes it takes, the error. -/
def getV (l : List UInt8) : List UInt8 × Nat × Nat :=
  if l = [] then ([], 0, 3)
  else if l.length < 6 then ([], 0, 10)
  else if l.length - 6 < lowV (l.take 2) then ([], 0, 10)
  else if sumL (l.take 2 ++ (l.drop 6).take (lowV (l.take 2))) = lowV ((l.drop 2).take 4) then ((l.drop 6).take (lowV (l.take 2)), 6 + lowV (l.take 2), 0)
  else ([], 0, 20)
def getR (l : List UInt8) : Value := .tuple #[.string (B (getV l).1), .int .i64 ((getV l).2.1 : Nat), .int .i64 ((getV l).2.2 : Nat)]

/-- Nothing happened but draws. -/
def Drawn (w w' : World) : Prop := ∃ n, w' = w.drewN n
theorem Drawn.re (w : World) : Drawn w w := ⟨0, rfl⟩
theorem Drawn.old {w w' : World} (h : Drawn w w') : Old w w' := by
  obtain ⟨n, rfl⟩ := h
  exact (Old.re _).dn n
theorem Tab.dn {w : World} (h : Tab w) (n : Nat) : Tab (w.drewN n) := h.old ((Old.re _).dn n)

set_option maxHeartbeats 1000000 in
theorem get_any (l : List UInt8) (hl : l.length ≤ 1000000) (w : World) (ht : Tab w) :
    Calls Tryd.prog 73 #[.string (B l)] w fun e w' => e = .returned (getR l) ∧ Drawn w w' := by
  by_cases h0 : l = []
  · subst h0
    go_enter Tryd.func73, Tryd.ntmps73
    go_wp2
    go_ret3
    exact ⟨rfl, Drawn.re _⟩
  have he : l.isEmpty = false := by simpa using h0
  have hpos : 0 < l.length := List.length_pos_iff.2 h0
  by_cases h6 : l.length < 6
  · have HV := Lib.hid (show getV l = ([], 0, 10) by rw [getV, if_neg h0, if_pos h6])
    go_enter Tryd.func73, Tryd.ntmps73
    go_wp2
    go_ret3
    refine ⟨?_, Drawn.re _⟩
    rw [getR, HV.out]
    rfl
  have HV := Lib.hid (show getV l = if l.length - 6 < lowV (l.take 2) then ([], 0, 10)
    else if sumL (l.take 2 ++ (l.drop 6).take (lowV (l.take 2))) = lowV ((l.drop 2).take 4) then ((l.drop 6).take (lowV (l.take 2)), 6 + lowV (l.take 2), 0)
    else ([], 0, 20) by rw [getV, if_neg h0, if_neg h6])
  have x2 : (B l).extract 0 2 = B (l.take 2) := ext_take _ _
  have x4 : (B l).extract 2 6 = B ((l.drop 2).take 4) := ext_B _ _ _
  have x6 : (B l).extract 6 l.length = B (l.drop 6) := ext_drop _ _ _ (Nat.le_refl _)
  have l2 : (l.take 2).length = 2 := by simp; omega
  have l4 : ((l.drop 2).take 4).length = 4 := by simp; omega
  have l6 : (l.drop 6).length = l.length - 6 := by simp
  go_enter Tryd.func73, Tryd.ntmps73
  go_wp2_with fail
  go_quiet (fail)
  go_wp2_with fail
  clear x2 x4 x6
  generalize l.take 2 = a at *
  generalize (l.drop 2).take 4 = b at *
  generalize l.drop 6 = c at *
  refine (number_any a _ (by omega)).mono ?_
  rintro e w1 ⟨rfl, rfl⟩
  have hn : lowV a < 65536 := by have := lowV_lt a; rw [l2] at this; omega
  generalize lowV a = n at *
  by_cases hcn : c.length < n
  · rw [if_pos (by omega)] at HV
    go_wp2
    go_ret3
    refine ⟨?_, _, rfl⟩
    rw [getR, HV.out]
    rfl
  have xn : (B c).extract 0 n = B (c.take n) := ext_take _ _
  rw [if_neg (by omega)] at HV
  go_wp2_with fail
  clear xn
  generalize hcd : c.take n = d at *
  have hd : d.length ≤ 65535 := by rw [← hcd]; simp; omega
  refine (sumOf_any a d (by omega) (by omega) _ (ht.dn _)).mono ?_
  rintro e w2 ⟨rfl, rfl⟩
  generalize sumL (a ++ d) = s at *
  go_wp2_with fail
  refine (number_any b _ (by omega)).mono ?_
  rintro e w2 ⟨rfl, rfl⟩
  generalize lowV b = t at *
  by_cases hst : s = t
  · rw [if_pos hst] at HV
    subst hst
    go_wp2
    go_ret3
    refine ⟨?_, _, rfl⟩
    rw [getR, HV.out]
    show Ending.returned (.tuple #[.string (B d), .int .i64 (6 + (n : Int)), .int .i64 0]) = Ending.returned (.tuple #[.string (B d), .int .i64 ((6 + n : Nat) : Int), .int .i64 ((0 : Nat) : Int)])
    rw [Int.natCast_add]
    rfl
  · rw [if_neg hst] at HV
    have hst2 : ((s : Int) != (t : Int)) = true := by rw [bne_iff_ne]; omega
    go_wp2
    go_ret3
    refine ⟨?_, _, rfl⟩
    rw [getR, HV.out]
    rfl

/-- What was c_put is got, whatever lies behind it. -/
theorem getV_put (l r : List UInt8) (h : l.length ≤ 65535) : getV (c_put l ++ r) = (l, 6 + l.length, 0) := by
  have h1 : (c_put l ++ r).length = 6 + l.length + r.length := by rw [List.length_append, put_length]
  have e2 : (c_put l ++ r).take 2 = low2 l.length := by simp [c_put, low2]
  have e4 : ((c_put l ++ r).drop 2).take 4 = low4 (sumL (low2 l.length ++ l)) := by simp [c_put, low2, low4]
  have e6 : (c_put l ++ r).drop 6 = l ++ r := by simp [c_put, low2, low4]
  unfold getV
  rw [if_neg (by intro e; rw [e] at h1; simp at h1; omega), if_neg (by omega), e2, e4, e6, lowV_low2 _ (by omega), if_neg (by omega), List.take_left' rfl, lowV_low4 (sumL _) (more_lt _ _), if_pos rfl]
theorem getR_of {l t : List UInt8} {n e : Nat} (h : getV l = (t, n, e)) : getR l = .tuple #[.string (B t), .int .i64 n, .int .i64 e] := by
  unfold getR
  rw [h]

theorem shown_sum : sumL [49, 50, 51, 52, 53, 54, 55, 56, 57] = 3421780262 := by decide +kernel
theorem shown_get : getV (c_put [97, 98] ++ [120]) = ([97, 98], 8, 0) := getV_put [97, 98] [120] (by decide)

end Go.Proofs.YtilimfbjkgeciaaDoor
