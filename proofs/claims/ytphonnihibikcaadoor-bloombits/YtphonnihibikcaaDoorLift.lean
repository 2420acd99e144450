/-
  From a law's walk to its row and its card: what came in, the table, the witness's world. No conditions.
-/
import Derived.Test.YtphonnihibikcaaDoorShown
import Derived.Test.YtphonnihibikcaaDoorCards
import Derived.Test.YtphonnihibikcaaDoorTie
import Derived.ProofKit
import Derived.OpenShut
import Derived.Lib.SmallJoins
import Derived.Deep.DeepHandedRow
import Derived.Lib.LaidTab
namespace Go.Proofs.YtphonnihibikcaaDoor
open Go.ChangeShapes Go.WideShapes Go.ChangeAt Go.RowKit Go.Joins Go.Deep

theorem Tryd.own : ownKnob Tryd.prog.godebug = none := by kernel_rfl
theorem Tryd.laidOut : laidOutB Tryd.prog = true := by kernel_rfl
/-- The table's name, as the rows have it. -/
abbrev tabName : String := Rows.bloomMayRow.named.headD ""
theorem gTab : Tryd.prog.globalNamed tabName = some 0 := by kernel_rfl
theorem gTabType : (Tryd.prog.globals[0]?).map (·.type) = some 50 := by kernel_rfl
theorem cellsTab : Tryd.prog.cellsOf 50 = 16 := by kernel_rfl
theorem cellsU32 : Tryd.prog.cellsOf 45 = 1 := by kernel_rfl
abbrev tabI : List Int := [0, 498536548, 997073096, 651767980, 1994146192, 1802195444, 1303535960, 1342533948, 3988292384, 4027552580, 3604390888, 3412177804, 2607071920, 2262029012, 2685067896, 3183342108]
abbrev laidL : List (String × DataW Unit) := Rows.bloomMayRow.laid

theorem table {W : World} (h : laidMetH Tryd.prog laidL W) : Tab W := by
  have h1 : Lib.TabIs Tryd.prog W tabName .u32 tabI :=
    Lib.tabIs_of_head (rest := []) gTab gTabType Tryd.underlying50 Tryd.underlying45 cellsU32 cellsTab h
  have h2 : ∀ i, i < 16 → W.cell? ⟨0, i, none⟩ = some (.int .u32 (tab.getD i 0 : Nat)) := by
    intro i hi
    have h3 := h1.cell gTab i hi
    rw [h3]
    have : ∀ i, i < 16 → tabI.getD i 0 = ((tab.getD i 0 : Nat) : Int) := by decide
    rw [this i hi]
  refine ⟨?_, h2⟩
  by_cases hz : 0 < W.heap.size
  · exact hz
  · have h0 := h2 0 (by omega)
    exfalso
    have hn : W.heap[0]? = none := by
      rw [Array.getElem?_eq_none]; omega
    simp [World.cell?, hn] at h0

theorem B_of (s : ByteArray) : s = B s.data.toList := by
  obtain ⟨d⟩ := s
  rfl

section
variable {H : Type} {enc : TypeId × Value → H} {w : World} {base : Nat} {spare : Nat → Bool} {held : Bool}
theorem open_str {r : Reach} {b0 : Nat} {v : Value} {d : DataW H} {p : List MemPlace} (hv : Value.okWide Tryd.prog w r b0 9 v) (h : DataW.Trod enc Tryd.prog w base spare held 9 v d p) :
    ∃ l : List UInt8, v = .string (B l) ∧ l.length ≤ maxLen := by
  obtain ⟨s, rfl, -, -, hs⟩ := ChangeMaps.open_string Tryd.underlying9 hv h
  exact ⟨s.data.toList, rfl, hs⟩
theorem open_u16 {r : Reach} {b0 : Nat} {v : Value} {d : DataW H} {p : List MemPlace} (hv : Value.okWide Tryd.prog w r b0 23 v) (h : DataW.Trod enc Tryd.prog w base spare held 23 v d p) :
    ∃ n : Nat, v = .int .u16 n ∧ n < 65536 := by
  obtain ⟨x, rfl, -, -, wx⟩ := open_int Tryd.underlying23 hv h
  have h2 : IntKind.u16.min ≤ x ∧ x ≤ IntKind.u16.max := by simpa [Lit.wf] using wx
  have a : IntKind.u16.min = 0 := by decide
  have b : IntKind.u16.max = 65535 := by decide
  rw [a, b] at h2
  obtain ⟨n, rfl⟩ := Int.eq_ofNat_of_zero_le h2.1
  exact ⟨n, rfl, by omega⟩
theorem open_u8 {r : Reach} {b0 : Nat} {v : Value} {d : DataW H} {p : List MemPlace} (hv : Value.okWide Tryd.prog w r b0 5 v) (h : DataW.Trod enc Tryd.prog w base spare held 5 v d p) :
    ∃ n : Nat, v = .int .u8 n ∧ n < 256 := by
  obtain ⟨x, rfl, -, -, wx⟩ := open_int Tryd.underlying5 hv h
  have h2 : IntKind.u8.min ≤ x ∧ x ≤ IntKind.u8.max := by simpa [Lit.wf] using wx
  have a : IntKind.u8.min = 0 := by decide
  have b : IntKind.u8.max = 255 := by decide
  rw [a, b] at h2
  obtain ⟨n, rfl⟩ := Int.eq_ofNat_of_zero_le h2.1
  exact ⟨n, rfl, by omega⟩
theorem open_i64 {r : Reach} {b0 : Nat} {v : Value} {d : DataW H} {p : List MemPlace} (hv : Value.okWide Tryd.prog w r b0 3 v) (h : DataW.Trod enc Tryd.prog w base spare held 3 v d p) :
    ∃ x : Int, v = .int .i64 x ∧ (-9223372036854775808 ≤ x ∧ x ≤ 9223372036854775807) := by
  obtain ⟨x, rfl, -, -, wx⟩ := open_int Tryd.underlying3 hv h
  have h2 : IntKind.i64.min ≤ x ∧ x ≤ IntKind.i64.max := by simpa [Lit.wf] using wx
  have a : IntKind.i64.min = -9223372036854775808 := by decide
  have b : IntKind.i64.max = 9223372036854775807 := by decide
  rw [a, b] at h2
  exact ⟨x, rfl, h2⟩
theorem open_u32 {r : Reach} {b0 : Nat} {v : Value} {d : DataW H} {p : List MemPlace} (hv : Value.okWide Tryd.prog w r b0 45 v) (h : DataW.Trod enc Tryd.prog w base spare held 45 v d p) :
    ∃ n : Nat, v = .int .u32 n ∧ n < 4294967296 := by
  obtain ⟨x, rfl, -, -, wx⟩ := open_int Tryd.underlying45 hv h
  have h2 : IntKind.u32.min ≤ x ∧ x ≤ IntKind.u32.max := by simpa [Lit.wf] using wx
  have a : IntKind.u32.min = 0 := by decide
  have b : IntKind.u32.max = 4294967295 := by decide
  rw [a, b] at h2
  obtain ⟨n, rfl⟩ := Int.eq_ofNat_of_zero_le h2.1
  exact ⟨n, rfl, by omega⟩
theorem cellsStr : Tryd.prog.cellsOf 9 = 1 := by kernel_rfl
theorem open_strs {r : Reach} {b0 : Nat} {v : Value} {d : DataW H} {p : List MemPlace} (hv : Value.okWide Tryd.prog w r b0 22 v) (h : DataW.Trod enc Tryd.prog w base spare held 22 v d p) (_ : ∀ x ∈ p, x.block < w.heap.size) :
    ∃ (l : List (List UInt8)) (A : Option Addr) (cap : Nat), v = .slice A l.length cap ∧ Strs w A cap l ∧ cap ≤ maxLen := by
  obtain ⟨A, len, cap, rfl⟩ := okWide_slice Tryd.underlying22 hv
  obtain ⟨fuel, hf⟩ := h
  rcases open_slice Tryd.underlying22 (by simpa [Value.cells] using hf) with ⟨h0, -⟩ | ⟨a, len', cap', m, n, D, Pl, hcs, hb, hl, hm, hmm, hx, hi⟩
  · simp only [List.cons.injEq, Value.slice.injEq, and_true] at h0
    obtain ⟨rfl, rfl, rfl⟩ := h0
    exact ⟨[], none, 0, rfl, ⟨Nat.le_refl _, fun i t ht => by simp at ht⟩, Nat.zero_le _⟩
  · simp only [List.cons.injEq, Value.slice.injEq, and_true] at hcs
    obtain ⟨rfl, rfl, rfl⟩ := hcs
    have hml : len ≤ m := by rw [hmm]; split <;> omega
    rw [cellsStr] at hi
    have hc : ∀ i, i < len → ∃ t : List UInt8, w.cell? (a.add i) = some (.string (B t)) ∧ t.length ≤ maxLen := by
      intro i hil
      obtain ⟨cs', h1, h2⟩ := hi i (by omega)
      obtain ⟨s, e, -, z⟩ := DataW.trod_string Tryd.underlying9 h2
      subst e
      obtain ⟨_, _, hat⟩ := World.cells?_some h1
      have h3 := hat 0 (by omega)
      refine ⟨s.data.toList, ?_, z⟩
      simpa [Addr.add] using h3
    rcases Nat.eq_zero_or_pos len with h0 | h0
    · subst h0
      exact ⟨[], some a, cap, rfl, ⟨Nat.zero_le _, fun i t ht => by simp at ht⟩, hm⟩
    · obtain ⟨b, off, spot⟩ := a
      have hspot : spot = none := by
        obtain ⟨t, h1, -⟩ := hc 0 h0
        have h3 : w.cell? ⟨b, off, spot⟩ = some (.string (B t)) := by simpa [Addr.add] using h1
        simpa using World.cell?_spot h3
      subst hspot
      classical
      refine ⟨(List.range len).map fun i => if hlt : i < len then Classical.choose (hc i hlt) else [], some ⟨b, off, none⟩, cap, by simp, ⟨by simpa using hl, ?_⟩, hm⟩
      intro i c hic
      rw [List.getElem?_map] at hic
      rcases Nat.lt_or_ge i len with hlt | hge
      · rw [List.getElem?_range hlt] at hic
        simp only [Option.map_some, dif_pos hlt, Option.some.injEq] at hic
        have hs := Classical.choose_spec (hc i hlt)
        rw [hic] at hs
        rw [Addr.add_lit] at hs
        exact ⟨hs.2, b, off, rfl, hs.1⟩
      · rw [List.getElem?_eq_none (by simpa using hge)] at hic
        cases hic
end

/-- A world for the witness: the table (block 0) holding what its initialiser lays. -/
noncomputable def laidWorld (os : Os) : World :=
  { World.holding Tryd.prog os ⟨#[], #[], []⟩ with heap := (World.holding Tryd.prog os ⟨#[], #[], []⟩).heap.modify 0 fun
      | .cells _ t frozen => .cells (tabI.map fun z => Value.int .u32 z).toArray t frozen
      | o => o }
end Go.Proofs.YtphonnihibikcaaDoor
