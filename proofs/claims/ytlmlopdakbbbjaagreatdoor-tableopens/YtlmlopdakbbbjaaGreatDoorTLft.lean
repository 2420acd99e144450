/-
  From a law's walk to its row and its card: what came in, the table, the witness's world. No conditions.
-/
import Derived.Test.YtlmlopdakbbbjaaGreatDoorTSho
import Derived.Test.YtlmlopdakbbbjaaGreatDoorCards
import Derived.Test.YtlmlopdakbbbjaaGreatDoorTie
import Derived.ProofKit
import Derived.OpenShut
import Derived.Lib.SmallJoins
import Derived.Deep.DeepHandedRow
import Derived.Lib.LaidTab
namespace Go.Proofs.YtlmlopdakbbbjaaGreatDoor
open Go.ChangeShapes Go.WideShapes Go.ChangeAt Go.RowKit Go.Joins Go.Deep

theorem Tryz.own : ownKnob Tryz.prog.godebug = none := by kernel_rfl
theorem Tryz.laidOut : laidOutB Tryz.prog = true := by kernel_rfl
/-- The table's name, as the rows have it. -/
abbrev tabName : String := Rows.tableBuildsRow.named.headD ""
theorem gTab : Tryz.prog.globalNamed tabName = some 1 := by kernel_rfl
theorem gTabType : (Tryz.prog.globals[1]?).map (·.type) = some 158 := by kernel_rfl
theorem cellsTab : Tryz.prog.cellsOf 158 = 16 := by kernel_rfl
theorem cellsU32 : Tryz.prog.cellsOf 60 = 1 := by kernel_rfl
abbrev tabI : List Int := [0, 498536548, 997073096, 651767980, 1994146192, 1802195444, 1303535960, 1342533948, 3988292384, 4027552580, 3604390888, 3412177804, 2607071920, 2262029012, 2685067896, 3183342108]
abbrev laidL : List (String × DataW Unit) := Rows.tableBuildsRow.laid

set_option maxRecDepth 100000 in
theorem table {W : World} (h : laidMetH Tryz.prog laidL W) : Tab W := by
  have h1 : Lib.TabIs Tryz.prog W tabName .u32 tabI :=
    Lib.tabIs_of_head (rest := []) gTab gTabType Tryz.underlying158 Tryz.underlying60 cellsU32 cellsTab h
  have h2 : ∀ i, i < 16 → W.cell? ⟨1, i, none⟩ = some (.int .u32 (tab.getD i 0 : Nat)) := by
    intro i hi
    have h3 := h1.cell gTab i hi
    rw [h3]
    have : ∀ i, i < 16 → tabI.getD i 0 = ((tab.getD i 0 : Nat) : Int) := by decide
    rw [this i hi]
  refine ⟨?_, h2⟩
  by_cases hz : 1 < W.heap.size
  · exact hz
  · have h0 := h2 0 (by omega)
    exfalso
    have hn : W.heap[1]? = none := by
      rw [Array.getElem?_eq_none]; omega
    simp [World.cell?, hn] at h0

theorem B_of (s : ByteArray) : s = B s.data.toList := by
  obtain ⟨d⟩ := s
  rfl

theorem u64_of_wf {x : Int} (h : (Lit.int .u64 x).wf = true) : 0 ≤ x ∧ x < 18446744073709551616 := by
  have h2 : IntKind.u64.min ≤ x ∧ x ≤ IntKind.u64.max := by simpa [Lit.wf] using h
  have a : IntKind.u64.min = 0 := by decide
  have b : IntKind.u64.max = 18446744073709551615 := by decide
  rw [a, b] at h2
  omega

theorem Tryz.cells24 : Tryz.prog.cellsOf 34 = 6 := by kernel_rfl
section
variable {H : Type} {enc : TypeId × Value → H} {w : World} {base : Nat} {spare : Nat → Bool} {held : Bool}
set_option maxRecDepth 100000 in
theorem open_str {r : Reach} {b0 : Nat} {v : Value} {d : DataW H} {p : List MemPlace} (hv : Value.okWide Tryz.prog w r b0 9 v) (h : DataW.Trod enc Tryz.prog w base spare held 9 v d p) :
    ∃ l : List UInt8, v = .string (B l) ∧ l.length ≤ maxLen := by
  obtain ⟨s, rfl, -, -, hs⟩ := ChangeMaps.open_string Tryz.underlying9 hv h
  exact ⟨s.data.toList, rfl, hs⟩
set_option maxRecDepth 100000 in
theorem open_u8 {r : Reach} {b0 : Nat} {v : Value} {d : DataW H} {p : List MemPlace} (hv : Value.okWide Tryz.prog w r b0 5 v) (h : DataW.Trod enc Tryz.prog w base spare held 5 v d p) :
    ∃ n : Nat, v = .int .u8 n ∧ n < 256 := by
  obtain ⟨x, rfl, -, -, wx⟩ := open_int Tryz.underlying5 hv h
  have h2 : IntKind.u8.min ≤ x ∧ x ≤ IntKind.u8.max := by simpa [Lit.wf] using wx
  have a : IntKind.u8.min = 0 := by decide
  have b : IntKind.u8.max = 255 := by decide
  rw [a, b] at h2
  obtain ⟨n, rfl⟩ := Int.eq_ofNat_of_zero_le h2.1
  exact ⟨n, rfl, by omega⟩
set_option maxRecDepth 100000 in
theorem open_i64 {r : Reach} {b0 : Nat} {v : Value} {d : DataW H} {p : List MemPlace} (hv : Value.okWide Tryz.prog w r b0 3 v) (h : DataW.Trod enc Tryz.prog w base spare held 3 v d p) :
    ∃ x : Int, v = .int .i64 x ∧ (-9223372036854775808 ≤ x ∧ x ≤ 9223372036854775807) := by
  obtain ⟨x, rfl, -, -, wx⟩ := open_int Tryz.underlying3 hv h
  have h2 : IntKind.i64.min ≤ x ∧ x ≤ IntKind.i64.max := by simpa [Lit.wf] using wx
  have a : IntKind.i64.min = -9223372036854775808 := by decide
  have b : IntKind.i64.max = 9223372036854775807 := by decide
  rw [a, b] at h2
  exact ⟨x, rfl, h2⟩
set_option maxRecDepth 100000 in
theorem open_u32 {r : Reach} {b0 : Nat} {v : Value} {d : DataW H} {p : List MemPlace} (hv : Value.okWide Tryz.prog w r b0 60 v) (h : DataW.Trod enc Tryz.prog w base spare held 60 v d p) :
    ∃ n : Nat, v = .int .u32 n ∧ n < 4294967296 := by
  obtain ⟨x, rfl, -, -, wx⟩ := open_int Tryz.underlying60 hv h
  have h2 : IntKind.u32.min ≤ x ∧ x ≤ IntKind.u32.max := by simpa [Lit.wf] using wx
  have a : IntKind.u32.min = 0 := by decide
  have b : IntKind.u32.max = 4294967295 := by decide
  rw [a, b] at h2
  obtain ⟨n, rfl⟩ := Int.eq_ofNat_of_zero_le h2.1
  exact ⟨n, rfl, by omega⟩
set_option maxRecDepth 100000 in
theorem trod_cel {fuel : Nat} {cs : List Value} {y : DataW H × List MemPlace} (hf : DataW.trod enc Tryz.prog w base spare held fuel 34 cs = some y) : ∃ c : Cel, cs = (cells c).toList ∧ c.ok := by
  obtain ⟨xs, n, _, hx, hsz, hlen, hg⟩ := DataW.trod_struct Tryz.underlying34 hf
  match cs, hsz.trans Tryz.cells24 with
  | [c0, c1, c2, c3, c4, c5], _ =>
    match xs, hlen with
    | [y0, y1, y2, y3, y4, y5], _ =>
      have k9 : Tryz.prog.cellsOf 9 = 1 := by kernel_rfl
      have k22 : Tryz.prog.cellsOf 23 = 1 := by kernel_rfl
      have k4 : Tryz.prog.cellsOf 4 = 1 := by kernel_rfl
      have g0 : DataW.trod enc Tryz.prog w base spare held n 9 ([c0, c1, c2, c3, c4, c5].take (Tryz.prog.cellsOf 9)) = some y0 := hg 0 _ rfl
      have g1 : DataW.trod enc Tryz.prog w base spare held n 9 ([c1, c2, c3, c4, c5].take (Tryz.prog.cellsOf 9)) = some y1 := hg 1 _ rfl
      have g2 : DataW.trod enc Tryz.prog w base spare held n 23 ([c2, c3, c4, c5].take (Tryz.prog.cellsOf 23)) = some y2 := hg 2 _ rfl
      have g3 : DataW.trod enc Tryz.prog w base spare held n 23 ([c3, c4, c5].take (Tryz.prog.cellsOf 23)) = some y3 := hg 3 _ rfl
      have g4 : DataW.trod enc Tryz.prog w base spare held n 4 ([c4, c5].take (Tryz.prog.cellsOf 4)) = some y4 := hg 4 _ rfl
      have g5 : DataW.trod enc Tryz.prog w base spare held n 9 ([c5].take (Tryz.prog.cellsOf 9)) = some y5 := hg 5 _ rfl
      rw [k9] at g0 g1 g5
      rw [k22] at g2 g3
      rw [k4] at g4
      obtain ⟨s0, e0, -, z0⟩ := DataW.trod_string Tryz.underlying9 g0
      obtain ⟨s1, e1, -, z1⟩ := DataW.trod_string Tryz.underlying9 g1
      obtain ⟨n2, e2, -, z2⟩ := DataW.trod_int Tryz.underlying23 g2
      obtain ⟨n3, e3, -, z3⟩ := DataW.trod_int Tryz.underlying23 g3
      obtain ⟨b4, e4, -⟩ := DataW.trod_bool Tryz.underlying4 g4
      obtain ⟨s5, e5, -, z5⟩ := DataW.trod_string Tryz.underlying9 g5
      simp only [List.take_succ_cons, List.take_zero, List.cons.injEq, and_true] at e0 e1 e2 e3 e4 e5
      subst e0 e1 e2 e3 e4 e5
      obtain ⟨p2, q2⟩ := u64_of_wf z2
      obtain ⟨p3, q3⟩ := u64_of_wf z3
      obtain ⟨m2, rfl⟩ := Int.eq_ofNat_of_zero_le p2
      obtain ⟨m3, rfl⟩ := Int.eq_ofNat_of_zero_le p3
      exact ⟨⟨s0.data.toList, s1.data.toList, m2, m3, b4, s5.data.toList⟩, rfl, by show m2 < _; omega, by show m3 < _; omega⟩

set_option maxRecDepth 100000 in
theorem open_cels {r : Reach} {b0 : Nat} {v : Value} {d : DataW H} {p : List MemPlace} (hv : Value.okWide Tryz.prog w r b0 22 v) (h : DataW.Trod enc Tryz.prog w base spare held 22 v d p) (_ : ∀ x ∈ p, x.block < w.heap.size) :
    ∃ l : List Cel, Cels w v l ∧ (∀ c ∈ l, c.ok) ∧ l.length ≤ maxLen ∧ ∃ A cap, v = .slice A l.length cap ∧ l.length ≤ cap := by
  obtain ⟨A, len, cap, rfl⟩ := okWide_slice Tryz.underlying22 hv
  obtain ⟨fuel, hf⟩ := h
  rcases open_slice Tryz.underlying22 (by simpa [Value.cells] using hf) with ⟨h0, -⟩ | ⟨a, len', cap', m, n, D, Pl, hcs, hb, hl, hm, hmm, hx, hi⟩
  · simp only [List.cons.injEq, Value.slice.injEq, and_true] at h0
    obtain ⟨rfl, rfl, rfl⟩ := h0
    exact ⟨[], .inl ⟨rfl, none, 0, rfl⟩, by simp, by simp, none, 0, rfl, Nat.le_refl _⟩
  · simp only [List.cons.injEq, Value.slice.injEq, and_true] at hcs
    obtain ⟨rfl, rfl, rfl⟩ := hcs
    have hml : len ≤ m := by rw [hmm]; split <;> omega
    rw [Tryz.cells24] at hi
    have hc : ∀ i, i < len → ∃ c : Cel, c.ok ∧ ∀ j, j < 6 → w.cell? ((a.add (i * 6)).add j) = (cells c)[j]? := by
      intro i hil
      obtain ⟨cs', h1, h2⟩ := hi i (by omega)
      obtain ⟨c, rfl, hok⟩ := trod_cel h2
      obtain ⟨_, _, hat⟩ := World.cells?_some h1
      exact ⟨c, hok, fun j hj => by rw [hat j hj]; simp⟩
    rcases Nat.eq_zero_or_pos len with h0 | h0
    · subst h0
      exact ⟨[], .inl ⟨rfl, some a, cap, rfl⟩, by simp, by simp, some a, cap, rfl, by simp⟩
    · obtain ⟨b, off, spot⟩ := a
      have hspot : spot = none := by
        obtain ⟨c, -, h1⟩ := hc 0 h0
        have h2 := h1 0 (by omega)
        have h3 : w.cell? ⟨b, off, spot⟩ = some (.string (B c.row)) := by simpa [Addr.add] using h2
        simpa using World.cell?_spot h3
      subst hspot
      classical
      refine ⟨(List.range len).map fun i => if hlt : i < len then Classical.choose (hc i hlt) else ⟨[], [], 0, 0, false, []⟩, .inr ⟨b, off, cap, by simp, ?_⟩, ?_, by simp; omega, some ⟨b, off, none⟩, cap, by simp, by simp; omega⟩
      rotate_left
      · intro c hcm
        obtain ⟨i, hi2, rfl⟩ := List.mem_map.1 hcm
        have hlt := List.mem_range.1 hi2
        simp only [dif_pos hlt]
        exact (Classical.choose_spec (hc i hlt)).1
      intro i c hic
      rw [List.getElem?_map] at hic
      rcases Nat.lt_or_ge i len with hlt | hge
      · rw [List.getElem?_range hlt] at hic
        simp only [Option.map_some, dif_pos hlt, Option.some.injEq] at hic
        have hs := (Classical.choose_spec (hc i hlt)).2
        rw [hic] at hs
        have hj : ∀ j, j < 6 → w.cell? ⟨b, off + i * 6 + j, none⟩ = (cells c)[j]? := fun j hj => by
          have := hs j hj
          rwa [Addr.add_lit, Addr.add_lit] at this
        exact ⟨hj 0 (by omega), hj 1 (by omega), hj 2 (by omega), hj 3 (by omega), hj 4 (by omega), hj 5 (by omega)⟩
      · rw [List.getElem?_eq_none (by simpa using hge)] at hic
        cases hic
set_option maxRecDepth 100000 in
theorem open_u64 {r : Reach} {b0 : Nat} {v : Value} {d : DataW H} {p : List MemPlace} (hv : Value.okWide Tryz.prog w r b0 23 v) (h : DataW.Trod enc Tryz.prog w base spare held 23 v d p) :
    ∃ n : Nat, v = .int .u64 n ∧ n < 18446744073709551616 := by
  obtain ⟨x, rfl, -, -, wx⟩ := open_int Tryz.underlying23 hv h
  obtain ⟨h1, h2⟩ := u64_of_wf wx
  obtain ⟨n, rfl⟩ := Int.eq_ofNat_of_zero_le h1
  exact ⟨n, rfl, by omega⟩

end

/-- A world for the witness: the table holding what its initialiser lays. -/
noncomputable def laidWorld (os : Os) : World :=
  { World.holding Tryz.prog os ⟨#[], #[], []⟩ with heap := (World.holding Tryz.prog os ⟨#[], #[], []⟩).heap.modify 1 fun
      | .cells _ t frozen => .cells (tabI.map fun z => Value.int .u32 z).toArray t frozen
      | o => o }
section
variable {H : Type} {enc : TypeId × Value → H} {P : Program} {w : World} {base : Nat} {spare : Nat → Bool} {held : Bool}
theorem trodAll_four' {t t' t'' t3 : TypeId} {args : Array Value} {ds : List (DataW H)} {ps : List MemPlace} (h : DataW.TrodAll enc P w base spare held [t, t', t'', t3] args.toList ds ps) :
    ∃ v v' v'' v3 d d' d'' d3 p p' p'' p3, args = #[v, v', v'', v3] ∧ ds = [d, d', d'', d3] ∧ ps = p ++ (p' ++ (p'' ++ p3)) ∧ DataW.Trod enc P w base spare held t v d p ∧ DataW.Trod enc P w base spare held t' v' d' p' ∧ DataW.Trod enc P w base spare held t'' v'' d'' p'' ∧ DataW.Trod enc P w base spare held t3 v3 d3 p3 := by
  obtain ⟨v, vs, d, ds', p, q, hargs, rfl, rfl, hd, hrest⟩ := trodAll_cons h
  obtain ⟨v', vs', d', ds2, p', q', rfl, rfl, rfl, hd', hrest'⟩ := trodAll_cons hrest
  obtain ⟨v'', vs'', d'', ds3, p'', q'', rfl, rfl, rfl, hd'', hrest''⟩ := trodAll_cons hrest'
  obtain ⟨v3, vs3, d3, ds4, p3, q3, rfl, rfl, rfl, hd3, hrest3⟩ := trodAll_cons hrest''
  obtain ⟨rfl, rfl, rfl⟩ := trodAll_nil hrest3
  exact ⟨v, v', v'', v3, d, d', d'', d3, p, p', p'', p3, by cases args; simp_all, rfl, by simp, hd, hd', hd'', hd3⟩
end
end Go.Proofs.YtlmlopdakbbbjaaGreatDoor
