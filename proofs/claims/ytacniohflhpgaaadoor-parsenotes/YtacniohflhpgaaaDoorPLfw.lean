/-
  Cells that came in, with the lengths of their texts. No conditions.
-/
import Derived.Test.YtacniohflhpgaaaDoorPLft
namespace Go.Proofs.YtacniohflhpgaaaDoor
open Go.ChangeShapes Go.WideShapes Go.ChangeAt Go.RowKit Go.Joins Go.Deep

/-- A cell as it may come in. -/
def Cel.wl (c : Cel) : Prop := c.ts < 18446744073709551616 ∧ c.row.length ≤ maxLen ∧ c.col.length ≤ maxLen ∧ c.val.length ≤ maxLen
section
variable {H : Type} {enc : TypeId × Value → H} {w : World} {base : Nat} {spare : Nat → Bool} {held : Bool}
set_option maxRecDepth 100000 in
theorem trod_celw {fuel : Nat} {cs : List Value} {y : DataW H × List MemPlace} (hf : DataW.trod enc Tryd.prog w base spare held fuel 33 cs = some y) : ∃ c : Cel, cs = (cells c).toList ∧ c.wl := by
  obtain ⟨xs, n, _, hx, hsz, hlen, hg⟩ := DataW.trod_struct Tryd.underlying33 hf
  match cs, hsz.trans Tryd.cells24 with
  | [c0, c1, c2, c3, c4, c5], _ =>
    match xs, hlen with
    | [y0, y1, y2, y3, y4, y5], _ =>
      have k9 : Tryd.prog.cellsOf 9 = 1 := by kernel_rfl
      have k22 : Tryd.prog.cellsOf 31 = 1 := by kernel_rfl
      have k4 : Tryd.prog.cellsOf 4 = 1 := by kernel_rfl
      have g0 : DataW.trod enc Tryd.prog w base spare held n 9 ([c0, c1, c2, c3, c4, c5].take (Tryd.prog.cellsOf 9)) = some y0 := hg 0 _ rfl
      have g1 : DataW.trod enc Tryd.prog w base spare held n 9 ([c1, c2, c3, c4, c5].take (Tryd.prog.cellsOf 9)) = some y1 := hg 1 _ rfl
      have g2 : DataW.trod enc Tryd.prog w base spare held n 31 ([c2, c3, c4, c5].take (Tryd.prog.cellsOf 31)) = some y2 := hg 2 _ rfl
      have g3 : DataW.trod enc Tryd.prog w base spare held n 31 ([c3, c4, c5].take (Tryd.prog.cellsOf 31)) = some y3 := hg 3 _ rfl
      have g4 : DataW.trod enc Tryd.prog w base spare held n 4 ([c4, c5].take (Tryd.prog.cellsOf 4)) = some y4 := hg 4 _ rfl
      have g5 : DataW.trod enc Tryd.prog w base spare held n 9 ([c5].take (Tryd.prog.cellsOf 9)) = some y5 := hg 5 _ rfl
      rw [k9] at g0 g1 g5
      rw [k22] at g2 g3
      rw [k4] at g4
      obtain ⟨s0, e0, -, z0⟩ := DataW.trod_string Tryd.underlying9 g0
      obtain ⟨s1, e1, -, z1⟩ := DataW.trod_string Tryd.underlying9 g1
      obtain ⟨n2, e2, -, z2⟩ := DataW.trod_int Tryd.underlying31 g2
      obtain ⟨n3, e3, -, z3⟩ := DataW.trod_int Tryd.underlying31 g3
      obtain ⟨b4, e4, -⟩ := DataW.trod_bool Tryd.underlying4 g4
      obtain ⟨s5, e5, -, z5⟩ := DataW.trod_string Tryd.underlying9 g5
      simp only [List.take_succ_cons, List.take_zero, List.cons.injEq, and_true] at e0 e1 e2 e3 e4 e5
      subst e0 e1 e2 e3 e4 e5
      obtain ⟨p2, q2⟩ := u64_of_wf z2
      obtain ⟨p3, q3⟩ := u64_of_wf z3
      obtain ⟨m2, rfl⟩ := Int.eq_ofNat_of_zero_le p2
      obtain ⟨m3, rfl⟩ := Int.eq_ofNat_of_zero_le p3
      exact ⟨⟨s0.data.toList, s1.data.toList, m2, m3, b4, s5.data.toList⟩, rfl, by show m2 < _; omega, z0, z1, z5⟩
set_option maxRecDepth 100000 in
theorem open_celw {r : Reach} {b0 : Nat} {v : Value} {d : DataW H} {p : List MemPlace} (hv : Value.okWide Tryd.prog w r b0 23 v) (h : DataW.Trod enc Tryd.prog w base spare held 23 v d p) (_ : ∀ x ∈ p, x.block < w.heap.size) :
    ∃ l : List Cel, Cels w v l ∧ (∀ c ∈ l, c.wl) ∧ l.length ≤ maxLen ∧ ∃ A cap, v = .slice A l.length cap ∧ l.length ≤ cap := by
  obtain ⟨A, len, cap, rfl⟩ := okWide_slice Tryd.underlying23 hv
  obtain ⟨fuel, hf⟩ := h
  rcases open_slice Tryd.underlying23 (by simpa [Value.cells] using hf) with ⟨h0, -⟩ | ⟨a, len', cap', m, n, D, Pl, hcs, hb, hl, hm, hmm, hx, hi⟩
  · simp only [List.cons.injEq, Value.slice.injEq, and_true] at h0
    obtain ⟨rfl, rfl, rfl⟩ := h0
    exact ⟨[], .inl ⟨rfl, none, 0, rfl⟩, by simp, by simp, none, 0, rfl, Nat.le_refl _⟩
  · simp only [List.cons.injEq, Value.slice.injEq, and_true] at hcs
    obtain ⟨rfl, rfl, rfl⟩ := hcs
    have hml : len ≤ m := by rw [hmm]; split <;> omega
    rw [Tryd.cells24] at hi
    have hc : ∀ i, i < len → ∃ c : Cel, c.wl ∧ ∀ j, j < 6 → w.cell? ((a.add (i * 6)).add j) = (cells c)[j]? := by
      intro i hil
      obtain ⟨cs', h1, h2⟩ := hi i (by omega)
      obtain ⟨c, rfl, hok⟩ := trod_celw h2
      obtain ⟨_, _, hat⟩ := World.cells?_some h1
      exact ⟨c, hok, fun j hj => by rw [hat j hj]; simp⟩
    rcases Nat.eq_zero_or_pos len with h0 | h0
    · subst h0
      exact ⟨[], .inl ⟨rfl, some a, cap, rfl⟩, by simp, by simp, some a, cap, rfl, by simp⟩
    · obtain ⟨b, off, spot⟩ := a
      have hspot : spot = none := by
        obtain ⟨c, -, h1⟩ := hc 0 h0
        have h2 := h1 0 (by omega)
        have h3 : w.cell? ⟨b, off, spot⟩ = some (.string (B c.row)) := by simpa [Addr.add] using h2
        simpa using World.cell?_spot h3
      subst hspot
      classical
      refine ⟨(List.range len).map fun i => if hlt : i < len then Classical.choose (hc i hlt) else ⟨[], [], 0, 0, false, []⟩, .inr ⟨b, off, cap, by simp, ?_⟩, ?_, by simp; omega, some ⟨b, off, none⟩, cap, by simp, by simp; omega⟩
      rotate_left
      · intro c hcm
        obtain ⟨i, hi2, rfl⟩ := List.mem_map.1 hcm
        have hlt := List.mem_range.1 hi2
        simp only [dif_pos hlt]
        exact (Classical.choose_spec (hc i hlt)).1
      intro i c hic
      rw [List.getElem?_map] at hic
      rcases Nat.lt_or_ge i len with hlt | hge
      · rw [List.getElem?_range hlt] at hic
        simp only [Option.map_some, dif_pos hlt, Option.some.injEq] at hic
        have hs := (Classical.choose_spec (hc i hlt)).2
        rw [hic] at hs
        have hj : ∀ j, j < 6 → w.cell? ⟨b, off + i * 6 + j, none⟩ = (cells c)[j]? := fun j hj => by
          have := hs j hj
          rwa [Addr.add_lit, Addr.add_lit] at this
        exact ⟨hj 0 (by omega), hj 1 (by omega), hj 2 (by omega), hj 3 (by omega), hj 4 (by omega), hj 5 (by omega)⟩
      · rw [List.getElem?_eq_none (by simpa using hge)] at hic
        cases hic

end
end Go.Proofs.YtacniohflhpgaaaDoor
