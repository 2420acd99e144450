/-
  The statements' anchor: shown answers true; SameCells of equal cells. No conditions but lengths.
-/
import Derived.Test.YtbccpplpfcfboaaMSo
namespace Go.Proofs.Ytbccpplpfcfboaa
open Go.RowKit

def z1 : Cel := ⟨[99], [120], 0, 0, false, []⟩
def z2 : Cel := ⟨[98], [120], 0, 0, false, []⟩
def z3 : Cel := ⟨[97], [120], 0, 0, false, []⟩
def z4 : Cel := ⟨[99], [120], 0, 0, false, [118]⟩
theorem shown_res : IsRes (itemsOf [z1, z2, z3, z4]) [⟨z3, 2⟩, ⟨z2, 1⟩, ⟨z4, 3⟩] := by
  refine ⟨by decide, fun k => ?_⟩
  show best [⟨z3, 2⟩, ⟨z2, 1⟩, ⟨z4, 3⟩] k = best [⟨z1, 0⟩, ⟨z2, 1⟩, ⟨z3, 2⟩, ⟨z4, 3⟩] k
  have e1 : sameI ⟨z1, 0⟩ k = sameI ⟨z4, 3⟩ k := rfl
  have ex : ∀ (a b : Cel) (p q : Int), a.row ≠ b.row → ¬ (sameI ⟨a, p⟩ k = true ∧ sameI ⟨b, q⟩ k = true) := fun a b p q hne h => by
    have h1 := (sameI_iff _ _).1 h.1
    have h2 := (sameI_iff _ _).1 h.2
    rw [cmpK_zero] at h1 h2
    exact hne (h1.1.trans h2.1.symm)
  have e2 := ex z2 z4 1 3 (by decide)
  have e3 := ex z3 z4 2 3 (by decide)
  have e4 := ex z2 z3 1 2 (by decide)
  simp only [best, one, e1]
  by_cases h1 : sameI ⟨z4, 3⟩ k = true <;> by_cases h2 : sameI ⟨z2, 1⟩ k = true <;> by_cases h3 : sameI ⟨z3, 2⟩ k = true
  · exact absurd ⟨h2, h1⟩ e2
  · exact absurd ⟨h2, h1⟩ e2
  · exact absurd ⟨h3, h1⟩ e3
  · simp [h1, h2, h3, comb]
  · exact absurd ⟨h2, h3⟩ e4
  · simp [h1, h2, h3, comb]
  · simp [h1, h2, h3, comb]
  · simp [h1, h2, h3, comb]
theorem shown_cnt : Cnt 2 4 2 := .step 4 1 (by omega) (by rw [show many 4 2 = 2 by decide]; exact .step 2 0 (by omega) (by rw [show many 2 2 = 1 by decide]; exact .stop 1 (by omega)))
theorem shown_cels (w : World) (g : Nat) (h : Bk w g 53 (flatC [z1, z2, z3, z4]).toArray) : Cels w (.slice (some ⟨g, 0, none⟩) 4 4) [z1, z2, z3, z4] := by
  refine .inr ⟨⟨g, 0, none⟩, 4, rfl, Nat.le_refl _, fun _ => ⟨g, 0, rfl, fun i c hc => ?_⟩⟩
  have k : ∀ j, j < 6 → w.cell? ⟨g, 0 + i * 6 + j, none⟩ = (cells c)[j]? := fun j hj => by
    rw [Bk.cell h, ← flatC_at _ i j c hc hj, Nat.zero_add]
    simp
  exact ⟨k 0 (by omega), k 1 (by omega), k 2 (by omega), k 3 (by omega), k 4 (by omega), k 5 (by omega)⟩

set_option maxRecDepth 100000 in
set_option maxHeartbeats 4000000 in
theorem shown_any (w : World) : Calls Try.prog 9 #[] w fun e w' => e = .returned (.bool true) ∧ Old w w' := by
  go_enter Try.func9, Try.ntmps9
  go_wp2_with fail
  have C := sort_any _ _ [z1, z2, z3, z4] (shown_cels _ _ (new_bk w 53 (flatC [z1, z2, z3, z4]).toArray)) (by simp) 1 2 (by omega) (by omega) (by omega) (by omega)
  refine C.mono ?_
  rintro e w1 ⟨u, out, p, rfl, hs, hc, o1⟩
  have o2 := (old_alloc w (.cells (flatC [z1, z2, z3, z4]).toArray 53)).tr o1
  clear C o1
  have hout := (hs.res (by omega) (by omega)).uniq shown_res
  subst hout
  obtain ⟨Ls, r, s⟩ := hs
  have hp : p = 2 := by
    have h1 := s.cnt
    rw [r.1] at h1
    exact h1.uniq shown_cnt
  subst hp
  rcases hc with ⟨-, q⟩ | ⟨A, cap, rfl, hcap, hA⟩
  · cases q
  · obtain ⟨b, off, rfl, hx⟩ := hA (by simp)
    have y0 := (hx 0 z3 rfl).held
    have y2 := (hx 2 z4 rfl).held
    obtain ⟨a0, a1, a2, a3, a4, a5⟩ := y0
    obtain ⟨b0, b1, b2, b3, b4, b5⟩ := y2
    rw [Nat.zero_mul, Nat.add_zero] at a0
    clear hx r s a1 a2 a3 a4 a5 b0 b1 b2 b3 b4
    simp only [List.map_cons, List.map_nil, List.length_cons, List.length_nil, z3, z4] at *
    go_wp2
    go_ret
    exact ⟨rfl, o2⟩
theorem neqCell (a : Cel) (w : World) : (binOp .neq 53 (cv a) (cv a)).run Try.prog w = .ok (.bool false) w := by
  go_simp
set_option maxHeartbeats 2000000 in
theorem sameC_any (w : World) (v u : Value) (l : List Cel) (h : Cels w v l) (h' : Cels w u l) (hl : l.length ≤ 100000) :
    Calls Try.prog 12 #[v, u] w fun e w' => e = .returned (.bool true) ∧ Old w w' := by
  obtain ⟨A, cap, rfl, hc⟩ := h.form
  obtain ⟨A', cap', rfl, hc'⟩ := h'.form
  have HI := Lib.hid h
  have HI' := Lib.hid h'
  clear h h'
  go_enter Try.func12, Try.ntmps12
  go_wp2_with fail
  go_loopw [5] (fun iv wr => ∃ k : Nat, iv = .int .i64 k ∧ k ≤ l.length ∧ Old w wr) (fun iv _ => l.length - (intOf iv).toNat)
  case atStart => exact ⟨0, rfl, Nat.zero_le _, Old.re _⟩
  case round =>
    obtain ⟨k, rfl, hk, o1⟩ := hrel
    by_cases hlt : k < l.length
    · obtain ⟨x, HX⟩ : ∃ x, Hid (l[k]? = some x) := ⟨l[k], Lib.hid (List.getElem?_eq_getElem hlt)⟩
      have HE := Lib.hid fun W => neqCell x W
      obtain ⟨b, off, rfl, hx⟩ := (HI.out.old o1).at_ HX.out
      obtain ⟨b', off', rfl, hy⟩ := (HI'.out.old o1).at_ HX.out
      obtain ⟨x0, x1, x2, x3, x4, x5⟩ := hx.held
      obtain ⟨y0, y1, y2, y3, y4, y5⟩ := hy.held
      have hb1 : (0 : Int) ≤ (k : Int) := by omega
      have hb2 : (k : Int) < (l.length : Int) := by omega
      go_upto_region 6 with (fail)
      have he := HE.out
      go_quiet (fail)
      clear x0 x1 x2 x3 x4 x5 y0 y1 y2 y3 y4 y5 hx hy he
      go_wp2
      go_round
      case rel => exact ⟨k + 1, by go_num, by omega, o1.dn _⟩
      case measure => simp [intOf]; omega
    · obtain rfl : k = l.length := by omega
      go_wp2
      go_ret
      exact ⟨rfl, o1⟩
end Go.Proofs.Ytbccpplpfcfboaa
