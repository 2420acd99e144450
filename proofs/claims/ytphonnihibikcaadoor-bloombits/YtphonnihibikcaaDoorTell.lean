/-
  tellPlaces: it hands the places of a name to the function, one by one, as long as that asks for more. Conditions: the table is laid; lengths as written.
-/
import Derived.Test.YtphonnihibikcaaDoorBase
namespace Go.Proofs.YtphonnihibikcaaDoor
open Go.RowKit

/-- The i-th place of a name among so many bits. -/
def place (l : List UInt8) (many i : Nat) : Nat := ((sumL l + i * more (sumL l) [1]) % 4294967296) % many
theorem place_lt (l : List UInt8) (many i : Nat) (h : 0 < many) : place l many i < many := Nat.mod_lt _ h

theorem place_cast (a b k many : Nat) (hm : 0 < many) (hm2 : many ≤ 1000000000) : wrap64 (((a : Int) + k * b) % 4294967296 % many) = (((a + k * b) % 4294967296 % many : Nat) : Int) := by
  have e : ((a : Int) + k * b) % 4294967296 % many = (((a + k * b) % 4294967296 % many : Nat) : Int) := by rw [Int.natCast_emod, Int.natCast_emod, Int.natCast_add, Int.natCast_mul]; rfl
  have h := Nat.mod_lt ((a + k * b) % 4294967296) hm
  rw [e]
  exact IntWalk.wrap64_in _ (by omega)

set_option maxHeartbeats 1000000 in
theorem tell_none (l : List UInt8) (many : Int) (hm : many < 1) (fv : Value) (w : World) :
    Calls Tryd.prog 22 #[.string (B l), .int .i64 many, fv] w fun e w' => e = .returned (.tuple #[]) ∧ w = w' := by
  go_enter Tryd.func22, Tryd.ntmps22
  go_wp2
  refine bodyPost_ret (results_none rfl _ _ _) rfl ?_
  exact ⟨rfl, rfl⟩

set_option maxHeartbeats 1000000 in
theorem tell_any (l : List UInt8) (hl : l.length ≤ 1000000) (many : Nat) (hm : 0 < many) (hm2 : many ≤ 1000000000) (g : Nat) (he : ∀ args w, (callFunc g args).run Tryd.prog w = .ok (.enter g args) w) (caps : Array Value) (I : Nat → World → Prop) (Q : World → Prop) (w : World) (h : Tab w)
    (h0 : I 0 w) (h4 : ∀ w', I 4 w' → Q w')
    (hc : ∀ i, i < 4 → ∀ w', I i w' → Calls Tryd.prog g (#[.int .i64 (place l many i : Nat)] ++ caps) w' fun e w2 => ∃ b, e = .returned (.bool b) ∧ (b = true → I (i + 1) w2) ∧ (b = false → Q w2)) :
    Calls Tryd.prog 22 #[.string (B l), .int .i64 many, .func (.func g) #[] caps] w fun e w' => e = .returned (.tuple #[]) ∧ Q w' := by
  obtain ⟨a, ha⟩ : ∃ a, a = sumL l := ⟨_, rfl⟩
  obtain ⟨b, hb⟩ : ∃ b, b = more (sumL l) [1] := ⟨_, rfl⟩
  have hs : a < 4294967296 := by rw [ha]; exact more_lt _ _
  have hs2 : b < 4294967296 := by rw [hb]; exact more_lt _ _
  have hpl : ∀ i, place l many i = ((a + i * b) % 4294967296) % many := fun i => by rw [ha, hb]; rfl
  have hsum := sum_any l hl w h
  rw [← ha] at hsum
  have hmore := more_any a hs [1] (by simp) w h
  rw [show more a [1] = b by rw [ha, hb]] at hmore
  have HP := Lib.hid hpl
  clear hpl ha hb
  have HC := Lib.hid hc
  have HM := Lib.hid hmore
  have HS := Lib.hid hsum
  clear hc hmore hsum
  go_enter Tryd.func22, Tryd.ntmps22
  go_wp2_with fail
  refine HS.out.mono ?_
  rintro e w1 ⟨rfl, rfl⟩
  go_wp2_with fail
  refine HM.out.mono ?_
  rintro e w1 ⟨rfl, rfl⟩
  go_wp2_with fail
  go_loopw [16] (fun i wr => ∃ k : Nat, k ≤ 4 ∧ i = .int .u32 k ∧ I k wr) (fun i _ => 4 - (intOf i).toNat)
  case atStart => exact ⟨0, Nat.zero_le _, rfl, h0⟩
  case round =>
    obtain ⟨k, hk, rfl, hi⟩ := hrel
    by_cases hlt : k < 4
    · go_wp2_with fail
      have hq : wrap64 (((a : Int) + k * b) % 4294967296 % many) = ((place l many k : Nat) : Int) := by
        rw [HP.out]
        exact place_cast a b k many hm hm2
      rw [hq]
      refine (HC.out k hlt wr hi).mono ?_
      rintro e w2 ⟨b2, rfl, ht, hf⟩
      cases b2
      · have hQ := hf rfl
        clear ht hf
        go_wp2
        refine bodyPost_ret (results_none rfl _ _ _) rfl ?_
        exact ⟨rfl, hQ⟩
      · have hI := ht rfl
        clear ht hf
        go_wp2
        go_roundw
        case rel => exact ⟨k + 1, by omega, by go_num, hI⟩
        case measure => simp [intOf]; omega
    · obtain rfl : k = 4 := by omega
      go_wp2
      refine bodyPost_end (results_none rfl _ _ _) rfl ?_
      exact ⟨rfl, h4 _ hi⟩
end Go.Proofs.YtphonnihibikcaaDoor
