/-
  A list of texts that came in. No conditions.
-/
import Derived.Test.YtjnhggdkllhinaaDoorLift
namespace Go.Proofs.YtjnhggdkllhinaaDoor
open Go.ChangeShapes Go.WideShapes Go.ChangeAt Go.RowKit Go.Joins Go.Deep

theorem kept_cell {W w1 : World} (hb : Old W w1) (g o : Nat) (h : g < W.heap.size) : w1.cell? ⟨g, o, none⟩ = W.cell? ⟨g, o, none⟩ := hb.cell (p := ⟨g, o, none⟩) h
theorem cell_old {w W : World} {b o : Nat} {v : Value} (h : w.cell? ⟨b, o, none⟩ = some v) (k : Old w W) : W.cell? ⟨b, o, none⟩ = some v := by
  rw [kept_cell k b o (World.block_lt_of_cell? w ⟨b, o, none⟩ h)]; exact h

/-- A slice at A of these texts. -/
def Strs (w : World) (A : Option Addr) (cap : Nat) (l : List (List UInt8)) : Prop :=
  l.length ≤ cap ∧ ∀ (i : Nat) (t : List UInt8), l[i]? = some t → t.length ≤ maxLen ∧ ∃ b off, A = some ⟨b, off, none⟩ ∧ w.cell? ⟨b, off + i, none⟩ = some (.string (B t))
theorem Strs.at_ {w : World} {A : Option Addr} {cap : Nat} {l : List (List UInt8)} (h : Strs w A cap l) (i : Nat) (hi : i < l.length) : l[i].length ≤ maxLen ∧ ∃ b off, A = some ⟨b, off, none⟩ ∧ w.cell? ⟨b, off + i, none⟩ = some (.string (B l[i])) := h.2 i _ (List.getElem?_eq_getElem hi)
theorem Strs.old {w W : World} {A : Option Addr} {cap : Nat} {l : List (List UInt8)} (h : Strs w A cap l) (k : Old w W) : Strs W A cap l := by
  refine ⟨h.1, fun i t ht => ?_⟩
  obtain ⟨h1, b, off, rfl, h2⟩ := h.2 i t ht
  exact ⟨h1, b, off, rfl, cell_old h2 k⟩

section
variable {H : Type} {enc : TypeId × Value → H} {w : World} {base : Nat} {spare : Nat → Bool} {held : Bool}
theorem cellsStr : Tryd.prog.cellsOf 9 = 1 := by kernel_rfl
theorem open_strs {r : Reach} {b0 : Nat} {v : Value} {d : DataW H} {p : List MemPlace} (hv : Value.okWide Tryd.prog w r b0 32 v) (h : DataW.Trod enc Tryd.prog w base spare held 32 v d p) (_ : ∀ x ∈ p, x.block < w.heap.size) :
    ∃ (l : List (List UInt8)) (A : Option Addr) (cap : Nat), v = .slice A l.length cap ∧ Strs w A cap l ∧ cap ≤ maxLen := by
  obtain ⟨A, len, cap, rfl⟩ := okWide_slice Tryd.underlying32 hv
  obtain ⟨fuel, hf⟩ := h
  rcases open_slice Tryd.underlying32 (by simpa [Value.cells] using hf) with ⟨h0, -⟩ | ⟨a, len', cap', m, n, D, Pl, hcs, hb, hl, hm, hmm, hx, hi⟩
  · simp only [List.cons.injEq, Value.slice.injEq, and_true] at h0
    obtain ⟨rfl, rfl, rfl⟩ := h0
    exact ⟨[], none, 0, rfl, ⟨Nat.le_refl _, fun i t ht => by simp at ht⟩, Nat.zero_le _⟩
  · simp only [List.cons.injEq, Value.slice.injEq, and_true] at hcs
    obtain ⟨rfl, rfl, rfl⟩ := hcs
    have hml : len ≤ m := by rw [hmm]; split <;> omega
    rw [cellsStr] at hi
    have hc : ∀ i, i < len → ∃ t : List UInt8, w.cell? (a.add i) = some (.string (B t)) ∧ t.length ≤ maxLen := by
      intro i hil
      obtain ⟨cs', h1, h2⟩ := hi i (by omega)
      obtain ⟨s, e, -, z⟩ := DataW.trod_string Tryd.underlying9 h2
      subst e
      obtain ⟨_, _, hat⟩ := World.cells?_some h1
      have h3 := hat 0 (by omega)
      refine ⟨s.data.toList, ?_, z⟩
      simpa [Addr.add] using h3
    rcases Nat.eq_zero_or_pos len with h0 | h0
    · subst h0
      exact ⟨[], some a, cap, rfl, ⟨Nat.zero_le _, fun i t ht => by simp at ht⟩, hm⟩
    · obtain ⟨b, off, spot⟩ := a
      have hspot : spot = none := by
        obtain ⟨t, h1, -⟩ := hc 0 h0
        have h3 : w.cell? ⟨b, off, spot⟩ = some (.string (B t)) := by simpa [Addr.add] using h1
        simpa using World.cell?_spot h3
      subst hspot
      classical
      refine ⟨(List.range len).map fun i => if hlt : i < len then Classical.choose (hc i hlt) else [], some ⟨b, off, none⟩, cap, by simp, ⟨by simpa using hl, ?_⟩, hm⟩
      intro i c hic
      rw [List.getElem?_map] at hic
      rcases Nat.lt_or_ge i len with hlt | hge
      · rw [List.getElem?_range hlt] at hic
        simp only [Option.map_some, dif_pos hlt, Option.some.injEq] at hic
        have hs := Classical.choose_spec (hc i hlt)
        rw [hic] at hs
        rw [Addr.add_lit] at hs
        exact ⟨hs.2, b, off, rfl, hs.1⟩
      · rw [List.getElem?_eq_none (by simpa using hge)] at hic
        cases hic
end
end Go.Proofs.YtjnhggdkllhinaaDoor
