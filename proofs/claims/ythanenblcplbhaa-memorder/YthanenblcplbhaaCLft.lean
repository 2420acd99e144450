/-
  From a law's walk to its row: cells, texts and numbers that came in. No conditions.
-/
import Derived.Test.YthanenblcplbhaaCSho
import Derived.Test.YthanenblcplbhaaMEnc
import Derived.SizedLaws
import Derived.ProofKit
import Derived.Lib.SmallJoins
namespace Go.Proofs.Ythanenblcplbhaa
open Go.ChangeShapes Go.WideShapes Go.ChangeAt Go.RowKit Go.Joins Go.Deep

theorem Try.own : ownKnob Try.prog.godebug = none := by kernel_rfl
theorem Try.laidOut : laidOutB Try.prog = true := by kernel_rfl
theorem Try.cells24 : Try.prog.cellsOf 31 = 6 := by kernel_rfl
theorem cellsStr : Try.prog.cellsOf 9 = 1 := by kernel_rfl

theorem B_of (s : ByteArray) : s = B s.data.toList := by
  obtain ⟨d⟩ := s
  rfl

theorem u64_of_wf {x : Int} (h : (Lit.int .u64 x).wf = true) : 0 ≤ x ∧ x < 18446744073709551616 := by
  have h2 : IntKind.u64.min ≤ x ∧ x ≤ IntKind.u64.max := by simpa [Lit.wf] using h
  have a : IntKind.u64.min = 0 := by decide
  have b : IntKind.u64.max = 18446744073709551615 := by decide
  rw [a, b] at h2
  omega

section
variable {H : Type} {enc : TypeId × Value → H} {w : World} {base : Nat} {spare : Nat → Bool} {held : Bool}
set_option maxRecDepth 100000 in
theorem trod_cel {fuel : Nat} {cs : List Value} {y : DataW H × List MemPlace} (hf : DataW.trod enc Try.prog w base spare held fuel 31 cs = some y) : ∃ c : Cel, cs = (cells c).toList ∧ c.ok := by
  obtain ⟨xs, n, _, hx, hsz, hlen, hg⟩ := DataW.trod_struct Try.underlying31 hf
  match cs, hsz.trans Try.cells24 with
  | [c0, c1, c2, c3, c4, c5], _ =>
    match xs, hlen with
    | [y0, y1, y2, y3, y4, y5], _ =>
      have k9 : Try.prog.cellsOf 9 = 1 := by kernel_rfl
      have k22 : Try.prog.cellsOf 29 = 1 := by kernel_rfl
      have k4 : Try.prog.cellsOf 4 = 1 := by kernel_rfl
      have g0 : DataW.trod enc Try.prog w base spare held n 9 ([c0, c1, c2, c3, c4, c5].take (Try.prog.cellsOf 9)) = some y0 := hg 0 _ rfl
      have g1 : DataW.trod enc Try.prog w base spare held n 9 ([c1, c2, c3, c4, c5].take (Try.prog.cellsOf 9)) = some y1 := hg 1 _ rfl
      have g2 : DataW.trod enc Try.prog w base spare held n 29 ([c2, c3, c4, c5].take (Try.prog.cellsOf 29)) = some y2 := hg 2 _ rfl
      have g3 : DataW.trod enc Try.prog w base spare held n 29 ([c3, c4, c5].take (Try.prog.cellsOf 29)) = some y3 := hg 3 _ rfl
      have g4 : DataW.trod enc Try.prog w base spare held n 4 ([c4, c5].take (Try.prog.cellsOf 4)) = some y4 := hg 4 _ rfl
      have g5 : DataW.trod enc Try.prog w base spare held n 9 ([c5].take (Try.prog.cellsOf 9)) = some y5 := hg 5 _ rfl
      rw [k9] at g0 g1 g5
      rw [k22] at g2 g3
      rw [k4] at g4
      obtain ⟨s0, e0, -, z0⟩ := DataW.trod_string Try.underlying9 g0
      obtain ⟨s1, e1, -, z1⟩ := DataW.trod_string Try.underlying9 g1
      obtain ⟨n2, e2, -, z2⟩ := DataW.trod_int Try.underlying29 g2
      obtain ⟨n3, e3, -, z3⟩ := DataW.trod_int Try.underlying29 g3
      obtain ⟨b4, e4, -⟩ := DataW.trod_bool Try.underlying4 g4
      obtain ⟨s5, e5, -, z5⟩ := DataW.trod_string Try.underlying9 g5
      simp only [List.take_succ_cons, List.take_zero, List.cons.injEq, and_true] at e0 e1 e2 e3 e4 e5
      subst e0 e1 e2 e3 e4 e5
      obtain ⟨p2, q2⟩ := u64_of_wf z2
      obtain ⟨p3, q3⟩ := u64_of_wf z3
      obtain ⟨m2, rfl⟩ := Int.eq_ofNat_of_zero_le p2
      obtain ⟨m3, rfl⟩ := Int.eq_ofNat_of_zero_le p3
      exact ⟨⟨s0.data.toList, s1.data.toList, m2, m3, b4, s5.data.toList⟩, rfl, by have q2' : (m2 : Int) < 18446744073709551616 := q2; have q3' : (m3 : Int) < 18446744073709551616 := q3; exact ⟨by show m2 < _; omega, by show m3 < _; omega⟩⟩
set_option maxRecDepth 100000 in
theorem open_cels {r : Reach} {b0 : Nat} {v : Value} {d : DataW H} {p : List MemPlace} (hv : Value.okWide Try.prog w r b0 22 v) (h : DataW.Trod enc Try.prog w base spare held 22 v d p) :
    ∃ l : List Cel, Cels w v l ∧ l.length ≤ maxLen ∧ (∀ c ∈ l, c.ok) := by
  obtain ⟨A, len, cap, rfl⟩ := okWide_slice Try.underlying22 hv
  obtain ⟨fuel, hf⟩ := h
  rcases open_slice Try.underlying22 (by simpa [Value.cells] using hf) with ⟨h0, -⟩ | ⟨a, len', cap', m, n, D, Pl, hcs, hb, hl, hm, hmm, hx, hi⟩
  · simp only [List.cons.injEq, Value.slice.injEq, and_true] at h0
    obtain ⟨rfl, rfl, rfl⟩ := h0
    exact ⟨[], .inl ⟨rfl, rfl⟩, by simp, by simp⟩
  · simp only [List.cons.injEq, Value.slice.injEq, and_true] at hcs
    obtain ⟨rfl, rfl, rfl⟩ := hcs
    have hml : len ≤ m := by rw [hmm]; split <;> omega
    rw [Try.cells24] at hi
    have hc : ∀ i, i < len → ∃ c : Cel, (∀ j, j < 6 → w.cell? ((a.add (i * 6)).add j) = (cells c)[j]?) ∧ c.ok := by
      intro i hil
      obtain ⟨cs', h1, h2⟩ := hi i (by omega)
      obtain ⟨c, rfl, hok⟩ := trod_cel h2
      obtain ⟨_, _, hat⟩ := World.cells?_some h1
      exact ⟨c, fun j hj => by rw [hat j hj]; simp, hok⟩
    rcases Nat.eq_zero_or_pos len with h0 | h0
    · subst h0
      exact ⟨[], .inr ⟨a, cap, rfl, by simp, fun h => absurd rfl h⟩, by simp, by simp⟩
    · obtain ⟨b, off, spot⟩ := a
      have hspot : spot = none := by
        obtain ⟨c, h1, -⟩ := hc 0 h0
        have h2 := h1 0 (by omega)
        have h3 : w.cell? ⟨b, off, spot⟩ = some (.string (B c.row)) := by simpa [Addr.add] using h2
        simpa using World.cell?_spot h3
      subst hspot
      classical
      refine ⟨(List.range len).map fun i => if hlt : i < len then Classical.choose (hc i hlt) else ⟨[], [], 0, 0, false, []⟩, .inr ⟨⟨b, off, none⟩, cap, by simp, by simp; omega, fun _ => ⟨b, off, rfl, ?_⟩⟩, by simp; omega, ?_⟩
      · intro i c hic
        rw [List.getElem?_map] at hic
        rcases Nat.lt_or_ge i len with hlt | hge
        · rw [List.getElem?_range hlt] at hic
          simp only [Option.map_some, dif_pos hlt, Option.some.injEq] at hic
          have hs := (Classical.choose_spec (hc i hlt)).1
          rw [hic] at hs
          have hj : ∀ j, j < 6 → w.cell? ⟨b, off + i * 6 + j, none⟩ = (cells c)[j]? := fun j hj => by
            have := hs j hj
            rwa [Addr.add_lit, Addr.add_lit] at this
          exact ⟨hj 0 (by omega), hj 1 (by omega), hj 2 (by omega), hj 3 (by omega), hj 4 (by omega), hj 5 (by omega)⟩
        · rw [List.getElem?_eq_none (by simpa using hge)] at hic
          cases hic
      · intro c hcm
        obtain ⟨i, hi, rfl⟩ := List.mem_map.1 hcm
        have hlt : i < len := List.mem_range.1 hi
        simp only [dif_pos hlt]
        exact (Classical.choose_spec (hc i hlt)).2
set_option maxRecDepth 100000 in
theorem open_i64 {r : Reach} {b0 : Nat} {v : Value} {d : DataW H} {p : List MemPlace} (hv : Value.okWide Try.prog w r b0 3 v) (h : DataW.Trod enc Try.prog w base spare held 3 v d p) :
    ∃ x : Int, v = .int .i64 x ∧ x ≤ 9223372036854775807 := by
  obtain ⟨x, rfl, -, -, wx⟩ := open_int Try.underlying3 hv h
  have h2 : IntKind.i64.min ≤ x ∧ x ≤ IntKind.i64.max := by simpa [Lit.wf] using wx
  have b : IntKind.i64.max = 9223372036854775807 := by decide
  rw [b] at h2
  exact ⟨x, rfl, h2.2⟩
set_option maxRecDepth 100000 in
theorem open_u8 {r : Reach} {b0 : Nat} {v : Value} {d : DataW H} {p : List MemPlace} (hv : Value.okWide Try.prog w r b0 5 v) (h : DataW.Trod enc Try.prog w base spare held 5 v d p) :
    ∃ n : Nat, v = .int .u8 n ∧ n < 256 := by
  obtain ⟨x, rfl, -, -, wx⟩ := open_int Try.underlying5 hv h
  have h2 : IntKind.u8.min ≤ x ∧ x ≤ IntKind.u8.max := by simpa [Lit.wf] using wx
  have a : IntKind.u8.min = 0 := by decide
  have b : IntKind.u8.max = 255 := by decide
  rw [a, b] at h2
  obtain ⟨n, rfl⟩ := Int.eq_ofNat_of_zero_le h2.1
  exact ⟨n, rfl, by omega⟩
theorem open_str {r : Reach} {b0 : Nat} {v : Value} {d : DataW H} {p : List MemPlace} (hv : Value.okWide Try.prog w r b0 9 v) (h : DataW.Trod enc Try.prog w base spare held 9 v d p) :
    ∃ l : List UInt8, v = .string (B l) ∧ l.length ≤ maxLen := by
  obtain ⟨s, rfl, -, -, hs⟩ := ChangeMaps.open_string Try.underlying9 hv h
  exact ⟨s.data.toList, rfl, hs⟩
end
end Go.Proofs.Ythanenblcplbhaa
