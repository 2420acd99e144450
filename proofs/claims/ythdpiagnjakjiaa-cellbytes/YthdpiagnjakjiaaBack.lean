/-
  What was written comes back: Decode of Encode's bytes with anything behind them; Decode of bytes that lost their end. Conditions: the cell may be, its numbers are of 64 bits.
-/
import Derived.Test.YthdpiagnjakjiaaDecode
namespace Go.Proofs.Ythdpiagnjakjiaa
open Go.RowKit

theorem take1 (x : UInt8) (l : List UInt8) : takeE (x :: l) 0 1 = 0 ∧ takeL (x :: l) 0 1 = l ∧ small1 (x :: l) 0 = x.toNat := by
  have h : takeE (x :: l) 0 1 = 0 := by simp [takeE]
  exact ⟨h, by simp [takeL], by simp [small1, h]⟩
theorem take_app (t r : List UInt8) (n : Nat) (hn : n = t.length) : takeT (t ++ r) 0 n = t ∧ takeL (t ++ r) 0 n = r ∧ takeE (t ++ r) 0 n = 0 := by
  subst hn
  refine ⟨?_, ?_, ?_⟩
  · simp [takeT]
  · simp [takeL]
  · simp [takeE]
theorem text_app (t r : List UInt8) (h : t.length ≤ 255) : textT (text1 t ++ r) 0 = t ∧ textL (text1 t ++ r) 0 = r ∧ textE (text1 t ++ r) 0 = 0 := by
  obtain ⟨h1, h2, h3⟩ := take1 (UInt8.ofNat t.length) (t ++ r)
  have h4 : (UInt8.ofNat t.length).toNat = t.length := by simp; omega
  unfold textT textL textE text1
  rw [List.cons_append, h1, h2, h3]
  exact take_app t r _ h4
theorem lowV_low8 (n : Nat) (h : n < 18446744073709551616) : lowV (low8 n) = n := by
  simp only [lowV, low8, List.foldr_cons, List.foldr_nil, UInt8.toNat_ofNat']
  omega
theorem low_app (n : Nat) (r : List UInt8) (h : n < 18446744073709551616) : lowV (takeT (low8 n ++ r) 0 8) = n ∧ takeL (low8 n ++ r) 0 8 = r ∧ takeE (low8 n ++ r) 0 8 = 0 := by
  obtain ⟨h1, h2, h3⟩ := take_app (low8 n) r 8 (by simp [low8])
  rw [h1, h2, h3]
  exact ⟨lowV_low8 n h, rfl, rfl⟩
theorem flag_app (d : Bool) (r : List UInt8) : flagB (flag1 d ++ r) 0 = d ∧ takeL (flag1 d ++ r) 0 1 = r ∧ flagE (flag1 d ++ r) 0 = 0 := by
  cases d
  · obtain ⟨h1, h2, h3⟩ := take1 0 r
    refine ⟨?_, h2, ?_⟩
    · show (small1 (0 :: r) 0 == 1) = false
      rw [h3]; rfl
    · show (if 1 < small1 (0 :: r) 0 then 1 else takeE (0 :: r) 0 1) = 0
      rw [h3, h1]; rfl
  · obtain ⟨h1, h2, h3⟩ := take1 1 r
    refine ⟨?_, h2, ?_⟩
    · show (small1 (1 :: r) 0 == 1) = true
      rw [h3]; rfl
    · show (if 1 < small1 (1 :: r) 0 then 1 else takeE (1 :: r) 0 1) = 0
      rw [h3, h1]; rfl

theorem dec_enc (c : Cel) (r : List UInt8) (hm : mayB c = true) (hok : c.ok) : dE6 (enc c ++ r) = 0 ∧ dCel (enc c ++ r) = c ∧ dL6 (enc c ++ r) = r := by
  obtain ⟨hr1, hr2, hc1, hc2, hv⟩ := mayB_parts hm
  obtain ⟨ht, hs⟩ := hok
  have e0 : enc c ++ r = text1 c.row ++ (text1 c.col ++ (low8 c.ts ++ (low8 c.seq ++ (flag1 c.del ++ (text1 c.val ++ r))))) := by simp [enc, List.append_assoc]
  rw [e0]
  obtain ⟨a1, a2, a3⟩ := text_app c.row (text1 c.col ++ (low8 c.ts ++ (low8 c.seq ++ (flag1 c.del ++ (text1 c.val ++ r))))) (by omega)
  obtain ⟨b1, b2, b3⟩ := text_app c.col (low8 c.ts ++ (low8 c.seq ++ (flag1 c.del ++ (text1 c.val ++ r)))) (by omega)
  obtain ⟨c1, c2, c3⟩ := low_app c.ts (low8 c.seq ++ (flag1 c.del ++ (text1 c.val ++ r))) ht
  obtain ⟨d1, d2, d3⟩ := low_app c.seq (flag1 c.del ++ (text1 c.val ++ r)) hs
  obtain ⟨f1, f2, f3⟩ := flag_app c.del (text1 c.val ++ r)
  obtain ⟨g1, g2, g3⟩ := text_app c.val r (by omega)
  simp only [dCel, dE6, dL6, dR, dC, dT, dS, dD, dV, dL5, dE5, dL4, dE4, dL3, dE3, dL2, dE2, dL1, dE1, a1, a2, a3, b1, b2, b3, c1, c2, c3, d1, d2, d3, f1, f2, f3, g1, g2, g3, and_self]

theorem decV_enc (c : Cel) (r : List UInt8) (hm : mayB c = true) (hok : c.ok) : decV (enc c ++ r) = .tuple #[cv c, .string (B r), .int .i64 0] := by
  obtain ⟨h1, h2, h3⟩ := dec_enc c r hm hok
  simp [decV, h1, h2, h3, hm]

/-- An error stays. -/
theorem text_err (l : List UInt8) (e : Int) (he : e ≠ 0) : textE l e = e := by simp [textE, takeE, he]
theorem flag_err (l : List UInt8) (e : Int) (he : e ≠ 0) : flagE l e = e := by
  have h : takeE l e 1 = e := by simp [takeE, he]
  simp [flagE, small1, h, he]
theorem take_err (l : List UInt8) (e : Int) (n : Nat) (he : e ≠ 0) : takeE l e n = e := by simp [takeE, he]
theorem decV_err {s : List UInt8} {e : Int} (h : dE6 s = e) (he : e ≠ 0) : decV s = .tuple #[.agg zeroCell, .string ⟨#[]⟩, .int .i64 e] := by
  simp [decV, h, he]
theorem dE6_of1 {s : List UInt8} {e : Int} (h : dE1 s = e) (he : e ≠ 0) : dE6 s = e := by
  simp [dE6, dE5, dE4, dE3, dE2, h, text_err _ _ he, take_err _ _ _ he, flag_err _ _ he]
theorem dE6_of2 {s : List UInt8} {e : Int} (h : dE2 s = e) (he : e ≠ 0) : dE6 s = e := by
  simp [dE6, dE5, dE4, dE3, h, text_err _ _ he, take_err _ _ _ he, flag_err _ _ he]
theorem dE6_of3 {s : List UInt8} {e : Int} (h : dE3 s = e) (he : e ≠ 0) : dE6 s = e := by
  simp [dE6, dE5, dE4, h, text_err _ _ he, take_err _ _ _ he, flag_err _ _ he]
theorem dE6_of4 {s : List UInt8} {e : Int} (h : dE4 s = e) (he : e ≠ 0) : dE6 s = e := by
  simp [dE6, dE5, h, text_err _ _ he, flag_err _ _ he]
theorem dE6_of5 {s : List UInt8} {e : Int} (h : dE5 s = e) (he : e ≠ 0) : dE6 s = e := by
  simp [dE6, h, text_err _ _ he]

theorem text_cut (t : List UInt8) (k : Nat) (h : t.length ≤ 255) (hk : k < (text1 t).length) : textE ((text1 t).take k) 0 = 10 := by
  cases k with
  | zero => simp [textE, takeE, text1]
  | succ k =>
    have hk2 : k < t.length := by simpa [text1] using hk
    unfold text1
    rw [List.take_succ_cons]
    obtain ⟨h1, h2, h3⟩ := take1 (UInt8.ofNat t.length) (t.take k)
    have h4 : (UInt8.ofNat t.length).toNat = t.length := by simp; omega
    unfold textE
    rw [h1, h2, h3, h4]
    simp [takeE]
    omega
theorem low_cut (n k : Nat) (hk : k < 8) : takeE ((low8 n).take k) 0 8 = 10 := by
  have : (low8 n).length = 8 := by simp [low8]
  simp [takeE]
  omega
theorem flag_cut : flagE [] 0 = 10 := by simp [flagE, small1, takeE]

theorem dec_cut (c : Cel) (k : Nat) (hm : mayB c = true) (hok : c.ok) (hk : k < (enc c).length) : dE6 ((enc c).take k) = 10 := by
  obtain ⟨hr1, hr2, hc1, hc2, hv⟩ := mayB_parts hm
  obtain ⟨ht, hs⟩ := hok
  have e0 : enc c = text1 c.row ++ (text1 c.col ++ (low8 c.ts ++ (low8 c.seq ++ (flag1 c.del ++ text1 c.val)))) := by simp [enc, List.append_assoc]
  rw [e0] at hk ⊢
  have l8 : ∀ n, (low8 n).length = 8 := fun n => by simp [low8]
  have lf := flag1_len c.del
  simp only [List.length_append, l8, lf] at hk
  by_cases k1 : k < (text1 c.row).length
  · rw [List.take_append_of_le_length (by omega)]
    exact dE6_of1 (text_cut _ _ (by omega) k1) (by omega)
  obtain ⟨k, rfl⟩ : ∃ j, k = (text1 c.row).length + j := ⟨k - (text1 c.row).length, by omega⟩
  rw [List.take_length_add_append]
  by_cases k2 : k < (text1 c.col).length
  · rw [List.take_append_of_le_length (by omega)]
    obtain ⟨a1, a2, a3⟩ := text_app c.row ((text1 c.col).take k) (by omega)
    refine dE6_of2 ?_ (by omega)
    simp only [dE2, dL1, dE1, a2, a3]
    exact text_cut _ _ (by omega) k2
  obtain ⟨k, rfl⟩ : ∃ j, k = (text1 c.col).length + j := ⟨k - (text1 c.col).length, by omega⟩
  rw [List.take_length_add_append]
  by_cases k3 : k < 8
  · rw [List.take_append_of_le_length (by rw [l8]; omega)]
    obtain ⟨a1, a2, a3⟩ := text_app c.row (text1 c.col ++ (low8 c.ts).take k) (by omega)
    obtain ⟨b1, b2, b3⟩ := text_app c.col ((low8 c.ts).take k) (by omega)
    refine dE6_of3 ?_ (by omega)
    simp only [dE3, dL2, dE2, dL1, dE1, a2, a3, b2, b3]
    exact low_cut _ _ k3
  obtain ⟨k, rfl⟩ : ∃ j, k = (low8 c.ts).length + j := ⟨k - 8, by rw [l8]; omega⟩
  rw [List.take_length_add_append]
  by_cases k4 : k < 8
  · rw [List.take_append_of_le_length (by rw [l8]; omega)]
    obtain ⟨a1, a2, a3⟩ := text_app c.row (text1 c.col ++ (low8 c.ts ++ (low8 c.seq).take k)) (by omega)
    obtain ⟨b1, b2, b3⟩ := text_app c.col (low8 c.ts ++ (low8 c.seq).take k) (by omega)
    obtain ⟨c1, c2, c3⟩ := low_app c.ts ((low8 c.seq).take k) ht
    refine dE6_of4 ?_ (by omega)
    simp only [dE4, dL3, dE3, dL2, dE2, dL1, dE1, a2, a3, b2, b3, c2, c3]
    exact low_cut _ _ k4
  obtain ⟨k, rfl⟩ : ∃ j, k = (low8 c.seq).length + j := ⟨k - 8, by rw [l8]; omega⟩
  rw [List.take_length_add_append]
  by_cases k5 : k < 1
  · obtain rfl : k = 0 := by omega
    rw [List.take_zero, List.append_nil]
    obtain ⟨a1, a2, a3⟩ := text_app c.row (text1 c.col ++ (low8 c.ts ++ low8 c.seq)) (by omega)
    obtain ⟨b1, b2, b3⟩ := text_app c.col (low8 c.ts ++ low8 c.seq) (by omega)
    obtain ⟨c1, c2, c3⟩ := low_app c.ts (low8 c.seq) ht
    obtain ⟨d1, d2, d3⟩ := low_app c.seq [] hs
    rw [List.append_nil] at d2 d3
    refine dE6_of5 ?_ (by omega)
    simp only [dE5, dL4, dE4, dL3, dE3, dL2, dE2, dL1, dE1, a2, a3, b2, b3, c2, c3, d2, d3]
    exact flag_cut
  obtain ⟨k, rfl⟩ : ∃ j, k = (flag1 c.del).length + j := ⟨k - 1, by rw [lf]; omega⟩
  rw [List.take_length_add_append]
  obtain ⟨a1, a2, a3⟩ := text_app c.row (text1 c.col ++ (low8 c.ts ++ (low8 c.seq ++ (flag1 c.del ++ (text1 c.val).take k)))) (by omega)
  obtain ⟨b1, b2, b3⟩ := text_app c.col (low8 c.ts ++ (low8 c.seq ++ (flag1 c.del ++ (text1 c.val).take k))) (by omega)
  obtain ⟨c1, c2, c3⟩ := low_app c.ts (low8 c.seq ++ (flag1 c.del ++ (text1 c.val).take k)) ht
  obtain ⟨d1, d2, d3⟩ := low_app c.seq (flag1 c.del ++ (text1 c.val).take k) hs
  obtain ⟨f1, f2, f3⟩ := flag_app c.del ((text1 c.val).take k)
  simp only [dE6, dL5, dE5, dL4, dE4, dL3, dE3, dL2, dE2, dL1, dE1, a2, a3, b2, b3, c2, c3, d2, d3, f2, f3]
  exact text_cut _ _ (by omega) (by rw [l8, l8, lf] at hk; omega)
end Go.Proofs.Ythdpiagnjakjiaa
