/-
  From a law's walk to its row: a cell that came in, and the row's last step, for laws of cells. No conditions.
-/
import Derived.Test.YthdpiagnjakjiaaShown
import Derived.ProofKit
import Derived.Lib.SmallJoins
namespace Go.Proofs.Ythdpiagnjakjiaa
open Go.ChangeShapes Go.WideShapes Go.ChangeAt Go.RowKit Go.Joins Go.Deep

theorem Try.own : ownKnob Try.prog.godebug = none := by kernel_rfl
theorem Try.laidOut : laidOutB Try.prog = true := by kernel_rfl
theorem Try.cells24 : Try.prog.cellsOf 24 = 6 := by kernel_rfl

theorem B_of (s : ByteArray) : s = B s.data.toList := by
  obtain ⟨d⟩ := s
  rfl

theorem u64_of_wf {x : Int} (h : (Lit.int .u64 x).wf = true) : 0 ≤ x ∧ x < 18446744073709551616 := by
  have h2 : IntKind.u64.min ≤ x ∧ x ≤ IntKind.u64.max := by simpa [Lit.wf] using h
  have a : IntKind.u64.min = 0 := by decide
  have b : IntKind.u64.max = 18446744073709551615 := by decide
  rw [a, b] at h2
  omega

section
variable {H : Type} {enc : TypeId × Value → H} {w : World} {base : Nat} {spare : Nat → Bool} {held : Bool}
/-- A cell that came in is a cell. -/
theorem open_cel {r : Reach} {b0 : Nat} {v : Value} {d : DataW H} {p : List MemPlace} (hv : Value.okWide Try.prog w r b0 24 v) (h : DataW.Trod enc Try.prog w base spare held 24 v d p) :
    ∃ c : Cel, v = cv c ∧ c.ok ∧ c.row.length ≤ maxLen ∧ c.col.length ≤ maxLen ∧ c.val.length ≤ maxLen := by
  obtain ⟨cs, rfl, hsz⟩ := okWide_struct Try.underlying24 hv
  obtain ⟨l⟩ := cs
  obtain ⟨fuel, hf⟩ := h
  obtain ⟨xs, n, _, hx, _, hlen, hg⟩ := DataW.trod_struct Try.underlying24 hf
  match l, hsz.trans Try.cells24 with
  | [c0, c1, c2, c3, c4, c5], _ =>
    match xs, hlen with
    | [y0, y1, y2, y3, y4, y5], _ =>
      have k9 : Try.prog.cellsOf 9 = 1 := by kernel_rfl
      have k22 : Try.prog.cellsOf 22 = 1 := by kernel_rfl
      have k4 : Try.prog.cellsOf 4 = 1 := by kernel_rfl
      have g0 : DataW.trod enc Try.prog w base spare held n 9 ([c0, c1, c2, c3, c4, c5].take (Try.prog.cellsOf 9)) = some y0 := hg 0 _ rfl
      have g1 : DataW.trod enc Try.prog w base spare held n 9 ([c1, c2, c3, c4, c5].take (Try.prog.cellsOf 9)) = some y1 := hg 1 _ rfl
      have g2 : DataW.trod enc Try.prog w base spare held n 22 ([c2, c3, c4, c5].take (Try.prog.cellsOf 22)) = some y2 := hg 2 _ rfl
      have g3 : DataW.trod enc Try.prog w base spare held n 22 ([c3, c4, c5].take (Try.prog.cellsOf 22)) = some y3 := hg 3 _ rfl
      have g4 : DataW.trod enc Try.prog w base spare held n 4 ([c4, c5].take (Try.prog.cellsOf 4)) = some y4 := hg 4 _ rfl
      have g5 : DataW.trod enc Try.prog w base spare held n 9 ([c5].take (Try.prog.cellsOf 9)) = some y5 := hg 5 _ rfl
      rw [k9] at g0 g1 g5
      rw [k22] at g2 g3
      rw [k4] at g4
      obtain ⟨s0, e0, -, z0⟩ := DataW.trod_string Try.underlying9 g0
      obtain ⟨s1, e1, -, z1⟩ := DataW.trod_string Try.underlying9 g1
      obtain ⟨n2, e2, -, z2⟩ := DataW.trod_int Try.underlying22 g2
      obtain ⟨n3, e3, -, z3⟩ := DataW.trod_int Try.underlying22 g3
      obtain ⟨b4, e4, -⟩ := DataW.trod_bool Try.underlying4 g4
      obtain ⟨s5, e5, -, z5⟩ := DataW.trod_string Try.underlying9 g5
      simp only [List.take_succ_cons, List.take_zero, List.cons.injEq, and_true] at e0 e1 e2 e3 e4 e5
      subst e0 e1 e2 e3 e4 e5
      obtain ⟨p2, q2⟩ := u64_of_wf z2
      obtain ⟨p3, q3⟩ := u64_of_wf z3
      obtain ⟨m2, rfl⟩ := Int.eq_ofNat_of_zero_le p2
      obtain ⟨m3, rfl⟩ := Int.eq_ofNat_of_zero_le p3
      exact ⟨⟨s0.data.toList, s1.data.toList, m2, m3, b4, s5.data.toList⟩, rfl, ⟨by simp only; omega, by simp only; omega⟩, z0, z1, z5⟩

theorem open_str {r : Reach} {b0 : Nat} {v : Value} {d : DataW H} {p : List MemPlace} (hv : Value.okWide Try.prog w r b0 9 v) (h : DataW.Trod enc Try.prog w base spare held 9 v d p) :
    ∃ l : List UInt8, v = .string (B l) ∧ l.length ≤ maxLen := by
  obtain ⟨s, rfl, -, -, hs⟩ := ChangeMaps.open_string Try.underlying9 hv h
  exact ⟨s.data.toList, rfl, hs⟩
theorem open_u16 {r : Reach} {b0 : Nat} {v : Value} {d : DataW H} {p : List MemPlace} (hv : Value.okWide Try.prog w r b0 42 v) (h : DataW.Trod enc Try.prog w base spare held 42 v d p) :
    ∃ n : Nat, v = .int .u16 n ∧ n < 65536 := by
  obtain ⟨x, rfl, -, -, wx⟩ := open_int Try.underlying42 hv h
  have h2 : IntKind.u16.min ≤ x ∧ x ≤ IntKind.u16.max := by simpa [Lit.wf] using wx
  have a : IntKind.u16.min = 0 := by decide
  have b : IntKind.u16.max = 65535 := by decide
  rw [a, b] at h2
  obtain ⟨n, rfl⟩ := Int.eq_ofNat_of_zero_le h2.1
  exact ⟨n, rfl, by omega⟩
end
end Go.Proofs.Ythdpiagnjakjiaa
