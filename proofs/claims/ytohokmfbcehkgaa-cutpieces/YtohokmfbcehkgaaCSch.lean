/-
  A search with a closure: sort.Search against whatever closure that only reads, and the code's search among texts that stand in order. Conditions: lengths as written.
-/
import Derived.Test.YtohokmfbcehkgaaCPlc
import Derived.Shelf.Abstract
namespace Go.Proofs.Ytohokmfbcehkgaa
open Go.RowKit Go.Shelf

set_option maxHeartbeats 4000000 in
theorem srch_any (g : Nat) (he : ∀ args w, (callFunc g args).run Try.prog w = .ok (.enter g args) w) (cb : Array Value) (n : Nat) (hn : n ≤ 1000000) (p : Nat → Bool) (w : World)
    (hf : ∀ i, i < n → ∀ W, Old w W → Calls Try.prog g (#[.int .i64 (i : Int)] ++ cb) W fun e w' => e = .returned (.bool (p i)) ∧ Old W w')
    (hmono : ∀ a b, a ≤ b → b < n → p a = true → p b = true) :
    Calls Try.prog 33 #[.int .i64 (n : Int), .func (.func g) #[] cb] w fun e w' => ∃ r : Nat, e = .returned (.int .i64 (r : Int)) ∧ r ≤ n ∧ (∀ t, t < r → p t = false) ∧ (∀ t, r ≤ t → t < n → p t = true) ∧ Old w w' := by
  have HF := Lib.hid hf
  have HM := Lib.hid hmono
  clear hf hmono
  go_enter Try.func33, Try.ntmps33
  go_wp2_with fail
  go_loopw [5, 6] (fun s5 s6 wr => ∃ (lo hi : Nat), s5 = .int .i64 lo ∧ s6 = .int .i64 hi ∧ lo ≤ hi ∧ hi ≤ n ∧ Old w wr ∧ Hid ((∀ t, t < lo → p t = false) ∧ (∀ t, hi ≤ t → t < n → p t = true))) (fun s5 s6 _ => (intOf s6 - intOf s5).toNat)
  case atStart => exact ⟨0, n, rfl, rfl, Nat.zero_le _, Nat.le_refl _, Old.re _, Lib.hid ⟨fun t ht => by omega, fun t h1 h2 => by omega⟩⟩
  case round =>
    obtain ⟨lo, hi, rfl, rfl, hlh, hin, o1, HI⟩ := hrel
    by_cases hlt : lo < hi
    · have HC := Lib.hid (HF.out ((lo + hi) / 2) (by omega) wr o1)
      have hmid : ((lo : Int) + (hi : Int)) / 2 = (((lo + hi) / 2 : Nat) : Int) := by omega
      obtain ⟨m, hm⟩ : ∃ m, m = (lo + hi) / 2 := ⟨_, rfl⟩
      have h1 : lo ≤ m := by omega
      have h2 : m < hi := by omega
      rw [← hm] at hmid HC
      clear hm
      go_wp2_with fail
      try rw [hmid]
      refine HC.out.mono ?_
      rintro e w2 ⟨rfl, o2⟩
      have o3 := o1.tr o2
      cases hp : p m with
      | false =>
        have I2 := Lib.hid (show (∀ t, t < m + 1 → p t = false) ∧ (∀ t, hi ≤ t → t < n → p t = true) from ⟨fun t ht => (by
          cases h : p t with
          | false => rfl
          | true =>
            have := HM.out t m (by omega) (by omega) h
            rw [hp] at this
            cases this), HI.out.2⟩)
        clear HC hp HI
        go_wp2
        go_roundw
        case rel => exact ⟨m + 1, hi, by go_num, by go_num, by omega, hin, o3, I2⟩
        case measure => simp [intOf]; omega
      | true =>
        have I2 := Lib.hid (show (∀ t, t < lo → p t = false) ∧ (∀ t, m ≤ t → t < n → p t = true) from ⟨HI.out.1, fun t ht htn => HM.out m t ht htn hp⟩)
        clear HC hp HI
        go_wp2
        go_roundw
        case rel => exact ⟨lo, m, by go_num, by go_num, h1, by omega, o3, I2⟩
        case measure => simp [intOf]; omega
    · obtain rfl : hi = lo := by omega
      go_wp2
      go_ret
      exact ⟨hi, rfl, hin, HI.out.1, HI.out.2, o1⟩

set_option maxHeartbeats 2000000 in
theorem srch1_any (A : Option Addr) (cap : Nat) (bs : List (List UInt8)) (r : List UInt8) (w : World) (hS : Strs w A cap bs) (hcap : bs.length ≤ 100000) (gb gr : Nat) (hb : w.cell? ⟨gb, 0, none⟩ = some (.slice A bs.length cap)) (hr : w.cell? ⟨gr, 0, none⟩ = some (.string (B r))) (i : Nat) (hi : i < bs.length) :
    Calls Try.prog 35 #[.int .i64 (i : Int), .pointer (some ⟨gb, 0, none⟩), .pointer (some ⟨gr, 0, none⟩)] w fun e w' => e = .returned (.bool (!leT (bs[i]?.getD []) r)) ∧ Old w w' := by
  obtain ⟨t, HX⟩ : ∃ t, Hid (bs[i]? = some t) := ⟨bs[i], Lib.hid (List.getElem?_eq_getElem hi)⟩
  obtain ⟨hln, b, off, rfl, hx⟩ := hS.2 i t HX.out
  have HE := Lib.hid (show leT (bs[i]?.getD []) r = leT t r by rw [HX.out]; rfl)
  have hw0 : IntKind.i64.wrap (i : Int) = (i : Int) := by rw [IntKind.wrap_i64]; omega
  have hb1 : (0 : Int) ≤ (i : Int) := by omega
  have hb2 : (i : Int) < (bs.length : Int) := by omega
  rw [HE.out]
  unfold leT
  clear HX hln hS HE
  go_enter Try.func35, Try.ntmps35
  go_wp2_with fail
  go_quiet (fail)
  go_wp2
  go_ret
  exact ⟨ret_bool (by rw [Bool.not_or]), by first | exact Old.re _ | exact (Old.re _).dr | exact (Old.re _).dn _⟩

/-- Texts that stand in order. -/
def Sorted (bs : List (List UInt8)) : Prop := ∀ (i j : Nat) (s t : List UInt8), i ≤ j → bs[i]? = some s → bs[j]? = some t → leT s t = true
set_option maxHeartbeats 2000000 in
theorem search_any (A : Option Addr) (cap : Nat) (bs : List (List UInt8)) (r : List UInt8) (w : World) (hS : Strs w A cap bs) (hcap : bs.length ≤ 100000) (hso : Sorted bs) :
    Calls Try.prog 26 #[.slice A bs.length cap, .string (B r)] w fun e w' => e = .returned (.int .i64 (place bs r)) ∧ Old w w' := by
  have HS := Lib.hid hS
  have HO := Lib.hid hso
  clear hS hso
  have H1 := Lib.hid (fun (W : World) (o : Old w W) (gb gr : Nat) h1 h2 (i : Nat) (hi : i < bs.length) => srch1_any A cap bs r W (HS.out.old o) hcap gb gr h1 h2 i hi)
  go_enter Try.func26, Try.ntmps26
  go_wp2_with fail
  have k1 := new_bk w 23 #[.slice A bs.length cap]
  have k2 := new_bk (w.alloc (.cells #[.slice A bs.length cap] 23)) 9 #[.string (B r)]
  have o1 : Old w ((w.alloc (.cells #[.slice A bs.length cap] 23)).alloc (.cells #[.string (B r)] 9)) := ((Old.re _).al _).al _
  have k1' := k1.alloc (.cells #[.string (B r)] 9)
  simp only [World.size_alloc] at k2
  generalize (w.alloc (.cells #[.slice A bs.length cap] 23)).alloc (.cells #[.string (B r)] 9) = W1 at *
  clear k1
  refine (srch_any 35 (enters_of Try.func35 (by kernel_rfl) rfl) _ bs.length (by omega) (fun i => !leT (bs[i]?.getD []) r) W1 (fun i hi W2 o2 => ?_) (fun a b hab hb h => ?_)).mono ?_
  · exact H1.out W2 (o1.tr o2) _ _ ((k1'.old o2).cell 0) ((k2.old o2).cell 0) i hi
  · have ha : a < bs.length := by omega
    have e := HO.out a b bs[a] bs[b] hab (List.getElem?_eq_getElem _) (List.getElem?_eq_getElem _)
    rw [List.getElem?_eq_getElem ha] at h
    rw [List.getElem?_eq_getElem hb]
    simp only [Option.getD_some, Bool.not_eq_true'] at *
    cases hc : leT bs[b] r with
    | false => rfl
    | true => rw [leT_trans e hc] at h; cases h
  · rintro e w2 ⟨m, rfl, hm, hl, hr, o2⟩
    have hpl : place bs r = m := place_split hm (fun i b hi hb => by have := hl i hi; rw [hb] at this; simpa using this) (fun i b hi hb => by have := hr i hi (List.getElem?_eq_some_iff.1 hb).1; rw [hb] at this; simpa using this)
    have o3 := o1.tr o2
    clear hl hr k1' k2
    go_wp2
    go_ret
    exact ⟨ret_int (by rw [hpl]), o3⟩
end Go.Proofs.Ytohokmfbcehkgaa
