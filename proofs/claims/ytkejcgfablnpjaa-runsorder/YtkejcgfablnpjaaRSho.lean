/-
  The statements' anchor: shown answers true. Make where the memory is too small. No conditions.
-/
import Derived.Test.YtkejcgfablnpjaaRRmk
import Derived.Test.YtkejcgfablnpjaaRSrr
namespace Go.Proofs.Ytkejcgfablnpjaa
open Go.RowKit

theorem row_at {w : World} {base : Nat} {e : TypeId} {v : Value} {n : Nat} {vs : List Value} (h : w.ownsRow base e 1 v n vs) {i : Nat} {x : Value} (hx : vs[i]? = some x) : ∃ g cap, v = .slice (some ⟨g, 0, none⟩) n cap ∧ w.cell? ⟨g, i, none⟩ = some x := by
  rcases h.2 with ⟨-, h0⟩ | ⟨g, cap, cur, hv, _⟩
  · have := h.1
    subst h0
    simp at this
    subst this
    simp at hx
  · refine ⟨g, cap, hv, ?_⟩
    have := World.ownsRow.cells h (g := g) (by rw [hv]; rfl) i x hx
    rwa [Addr.add_lit, Nat.zero_add] at this
theorem row_len {w : World} {base : Nat} {e : TypeId} {v : Value} {n : Nat} {vs : List Value} (h : w.ownsRow base e 1 v n vs) : ∃ A cap, v = .slice A n cap := by
  rcases h.2 with ⟨rfl, rfl⟩ | ⟨g, cap, cur, hv, _⟩
  · exact ⟨none, 0, rfl⟩
  · exact ⟨_, cap, hv⟩

def sB : Cel := ⟨[98], [99], 0, 0, false, []⟩
def sA : Cel := ⟨[97], [99], 0, 0, false, [49]⟩
def sC : Cel := ⟨[97], [99], 0, 0, false, [50]⟩
theorem shown_res : IsRes (part (itemsOf [sB, sA, sC]) 9 0) [⟨sC, 2⟩, ⟨sB, 0⟩] := by
  refine ⟨by decide, fun k => ?_⟩
  show best [⟨sC, 2⟩, ⟨sB, 0⟩] k = best [⟨sB, 0⟩, ⟨sA, 1⟩, ⟨sC, 2⟩] k
  have e1 : ∀ p q : Int, sameI ⟨sA, p⟩ k = sameI ⟨sC, q⟩ k := fun _ _ => rfl
  have e2 : ∀ p q : Int, ¬ (sameI ⟨sB, p⟩ k = true ∧ sameI ⟨sC, q⟩ k = true) := fun p q h => by
    have h1 := (sameI_iff _ _).1 h.1
    have h2 := (sameI_iff _ _).1 h.2
    rw [cmpK_zero] at h1 h2
    have h3 := h1.1.trans h2.1.symm
    simp [sB, sC] at h3
  simp only [best, one, e1 1 2]
  by_cases h1 : sameI ⟨sB, 0⟩ k = true <;> by_cases h2 : sameI ⟨sC, 2⟩ k = true
  · exact absurd ⟨h1, h2⟩ (e2 0 2)
  · simp [h1, h2, comb]
  · simp [h1, h2, comb]
  · simp [h1, h2, comb]
theorem shown_cels (w : World) (g : Nat) (h : Bk w g 43 (flatC [sB, sA, sC]).toArray) : Cels w (.slice (some ⟨g, 0, none⟩) 3 3) [sB, sA, sC] := by
  refine .inr ⟨⟨g, 0, none⟩, 3, rfl, Nat.le_refl _, fun _ => ⟨g, 0, rfl, fun i c hc => ?_⟩⟩
  have k : ∀ j, j < 6 → w.cell? ⟨g, 0 + i * 6 + j, none⟩ = (cells c)[j]? := fun j hj => by
    rw [Bk.cell h, ← flatC_at _ i j c hc hj, Nat.zero_add]
    simp
  exact ⟨k 0 (by omega), k 1 (by omega), k 2 (by omega), k 3 (by omega), k 4 (by omega), k 5 (by omega)⟩

set_option maxRecDepth 100000 in
set_option maxHeartbeats 4000000 in
theorem shown_any (w : World) : Calls Try.prog 9 #[] w fun e w' => e = .returned (.bool true) ∧ Old w w' := by
  go_enter Try.func9, Try.ntmps9
  go_wp2_with fail
  have C := make_any _ _ [sB, sA, sC] (shown_cels _ _ (new_bk w 43 (flatC [sB, sA, sC]).toArray)) (by simp) 9 (by omega) (by omega)
  refine C.mono ?_
  rintro e w1 ⟨u, rfl, ⟨base, vs, h1, h2, h3⟩, o1⟩
  have o2 := (old_alloc w (.cells (flatC [sB, sA, sC]).toArray 43)).tr o1
  clear C o1
  have hmn : many (itemsOf [sB, sA, sC]).length 9 = 1 := by decide
  rw [hmn] at h1 h2
  obtain ⟨x, hx⟩ : ∃ x, vs[0]? = some x := ⟨vs[0], List.getElem?_eq_getElem (by omega)⟩
  obtain ⟨g, cap, rfl, hc⟩ := row_at h1 hx
  obtain ⟨out, r1, r2, r3⟩ := h3 0 x hx
  have hout := r1.uniq shown_res
  subst hout
  have hI := r3.its
  have HS := Lib.hid (sorted_any w1 x [⟨sC, 2⟩, ⟨sB, 0⟩] hI (by simp))
  have HT := Lib.hid (sorted_strict _ r1.1)
  rcases r3 with ⟨-, q⟩ | ⟨gx, cx, rx, rfl, hcx, hsg⟩
  · cases q
  have hat := hsg.at_ (i := 0) rfl
  obtain ⟨x0, x1, x2, x3, x4, x5, x6⟩ := hat.held
  clear h1 h2 h3 hx r1 r2 hI hsg hat hmn
  go_wp2_with fail
  refine HS.out.mono ?_
  rintro e w2 ⟨rfl, o3⟩
  rw [HT.out]
  have o4 := o2.tr o3
  clear x0 x1 x2 x3 x4 x5 x6 HS HT hc
  go_wp2
  go_ret
  exact ⟨rfl, o4⟩

set_option maxHeartbeats 2000000 in
theorem make_bad (v : Value) (m : Int) (hm : m < 1) (w : World) :
    Calls Try.prog 10 #[v, .int .i64 m] w fun e W' => e = .returned (.tuple #[.slice none 0 0, .int .i64 1]) ∧ Old w W' := by
  go_enter Try.func10, Try.ntmps10
  go_wp2
  exact bodyPost_ret (results_tmp2 rfl _ _ _) rfl ⟨rfl, Old.re _⟩
set_option maxHeartbeats 2000000 in
theorem rmake_bad (v : Value) (m : Int) (hm : m < 1) (w : World) :
    Calls Try.prog 11 #[v, .int .i64 m] w fun e W' => e = .returned (.tuple #[.slice none 0 0, .int .i64 1]) ∧ Old w W' := by
  go_enter Try.func11, Try.ntmps11
  go_wp2
  exact bodyPost_ret (results_tmp2 rfl _ _ _) rfl ⟨rfl, Old.re _⟩
end Go.Proofs.Ytkejcgfablnpjaa
