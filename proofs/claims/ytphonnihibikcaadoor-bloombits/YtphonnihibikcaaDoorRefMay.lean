/-
  The document's own answer: May, Make, SameInts. Conditions: lengths as written.
-/
import Derived.Test.YtphonnihibikcaaDoorRefBit
namespace Go.Proofs.YtphonnihibikcaaDoor
open Go.RowKit

/-- A slice at A of these numbers. -/
def IntsAt (w : World) (A : Option Addr) (l : List Nat) : Prop := ∀ (i : Nat) (n : Nat), l[i]? = some n → ∃ g, A = some ⟨g, 0, none⟩ ∧ w.cell? ⟨g, i, none⟩ = some (.int .i64 (n : Int))
theorem Ints.shape {w : World} {base : Nat} {v : Value} {l : List Nat} (h : Ints w base v l) : ∃ A cap, v = .slice A l.length cap ∧ IntsAt w A l := by
  have hcs := fun g hg => World.ownsRow.cells h (g := g) hg
  rcases h.2 with ⟨rfl, hn⟩ | ⟨g, cap, cur, rfl, _⟩
  · have : l = [] := List.eq_nil_of_length_eq_zero hn
    subst this
    exact ⟨none, 0, rfl, fun i n hi => by simp at hi⟩
  · refine ⟨_, cap, rfl, fun i n hi => ⟨g, rfl, ?_⟩⟩
    have := hcs g rfl i (.int .i64 (n : Int)) (by simp [ns, hi])
    rwa [Addr.add_lit, Nat.zero_add] at this
theorem IntsAt.at_ {w : World} {A : Option Addr} {l : List Nat} (h : IntsAt w A l) (i : Nat) (hi : i < l.length) : ∃ g, A = some ⟨g, 0, none⟩ ∧ w.cell? ⟨g, i, none⟩ = some (.int .i64 (l[i] : Nat)) := h i _ (List.getElem?_eq_getElem hi)
theorem IntsAt.old {w W : World} {A : Option Addr} {l : List Nat} (h : IntsAt w A l) (k : Old w W) : IntsAt W A l := by
  intro i n hi
  obtain ⟨g, rfl, h2⟩ := h i n hi
  exact ⟨g, rfl, cell_old h2 k⟩
theorem places_length (l : List UInt8) (many : Nat) (h : 0 < many) : (places l many).length = 4 := by
  unfold places
  rw [if_neg (by omega)]
  simp
theorem places_at (l : List UInt8) (many : Nat) (h : 0 < many) (i : Nat) (hi : i < 4) : (places l many)[i]'(by rw [places_length l many h]; exact hi) = place l many i := by
  unfold places
  simp [show ¬ many = 0 by omega]
theorem places_lt (l : List UInt8) (many : Nat) : ∀ p ∈ places l many, p < many := by
  intro p hp
  unfold places at hp
  split at hp
  · cases hp
  · obtain ⟨i, _, rfl⟩ := List.mem_map.1 hp
    exact place_lt _ _ _ (by omega)

set_option maxHeartbeats 1000000 in
theorem rmay_any (f l : List UInt8) (hf : f.length ≤ 100000) (hl : l.length ≤ 100000) (w : World) :
    Calls Tryd.prog 19 #[.string (B f), .string (B l)] w fun e w' => e = .returned (.bool (mayL f l)) ∧ Old w w' := by
  by_cases h0 : f = []
  · subst h0
    go_enter Tryd.func19, Tryd.ntmps19
    go_wp2
    go_ret
    exact ⟨rfl, Old.re _⟩
  · have hpos : 0 < f.length := List.length_pos_iff.2 h0
    have hne : f.isEmpty = false := by cases f <;> simp at h0 ⊢
    have HM := Lib.hid (show mayL f l = mayTo f l 4 by unfold mayL; rw [hne, Bool.false_or])
    have e8 : (8 * (f.length : Int)) = ((8 * f.length : Nat) : Int) := by omega
    have HB := Lib.hid (rbits_any l hl (8 * f.length) (by omega) w)
    rw [← e8] at HB
    clear e8
    have hbe : (f == []) = false := by cases f <;> simp at h0 ⊢
    go_enter Tryd.func19, Tryd.ntmps19
    go_wp2_with fail
    refine HB.out.mono ?_
    rintro e w1 ⟨v, rfl, ho, hold⟩
    obtain ⟨A, cap, rfl, hA⟩ := ho.shape
    have hpl := places_length l (8 * f.length) (by omega)
    rw [hpl]
    clear HB ho
    go_wp2_with fail
    go_loop [6] (fun i => ∃ k : Nat, k ≤ 4 ∧ i = .int .i64 k ∧ mayTo f l k = true) (fun i => 4 - (intOf i).toNat)
    case atStart => exact ⟨0, Nat.zero_le _, rfl, rfl⟩
    case round =>
      obtain ⟨k, hk, rfl, hmt⟩ := hrel
      by_cases hlt : k < 4
      · obtain ⟨g, rfl, hc⟩ := hA.at_ k (by omega)
        rw [places_at l _ (by omega) k hlt] at hc
        have HS := Lib.hid (mayTo_succ f l k)
        have HN := Lib.hid (mayTo_false f l k hlt)
        rw [hmt, Bool.true_and] at HS
        have hpp := place_lt l (8 * f.length) k (by omega)
        clear hmt
        generalize place l (8 * f.length) k = p at *
        go_wp2_with fail
        refine (rbit_any f hf p hpp _).mono ?_
        rintro e w2 ⟨rfl, rfl⟩
        generalize bitAt f p = b at *
        cases b
        · have HN2 := Lib.hid (HN.out rfl)
          clear HN HS
          go_wp2
          go_ret
          refine ⟨ret_bool ?_, hold⟩
          rw [HM.out, HN2.out]
        · have HS2 := Lib.hid HS.out
          clear HN HS
          go_wp2
          go_round
          case rel => exact ⟨k + 1, by omega, by go_num, HS2.out⟩
          case measure => simp [intOf]; omega
      · obtain rfl : k = 4 := by omega
        have HS2 := Lib.hid hmt
        clear hmt
        go_wp2
        go_ret
        refine ⟨ret_bool ?_, hold⟩
        rw [HM.out, HS2.out]
end Go.Proofs.YtphonnihibikcaaDoor
