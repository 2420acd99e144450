/-
  From a law's walk to its row and its card: what came in, the table, the witness's world. No conditions.
-/
import Derived.Test.YtilimfbjkgeciaaDoorWLw
import Derived.Test.YtilimfbjkgeciaaDoorCards
import Derived.Test.YtilimfbjkgeciaaDoorTie
import Derived.ProofKit
import Derived.OpenShut
import Derived.Lib.SmallJoins
import Derived.Deep.DeepHandedRow
import Derived.Lib.LaidTab
namespace Go.Proofs.YtilimfbjkgeciaaDoor
set_option maxRecDepth 100000
open Go.ChangeShapes Go.WideShapes Go.ChangeAt Go.RowKit Go.Joins Go.Deep

theorem Tryd.own : ownKnob Tryd.prog.godebug = none := by kernel_rfl
theorem Tryd.laidOut : laidOutB Tryd.prog = true := by kernel_rfl
/-- The table's name, as the rows have it. -/
abbrev tabName : String := Rows.walActsRow.named.headD ""
theorem gTab : Tryd.prog.globalNamed tabName = some 0 := by kernel_rfl
theorem gTabType : (Tryd.prog.globals[0]?).map (·.type) = some 124 := by kernel_rfl
theorem cellsTab : Tryd.prog.cellsOf 124 = 16 := by kernel_rfl
theorem cellsU32 : Tryd.prog.cellsOf 102 = 1 := by kernel_rfl
abbrev tabI : List Int := [0, 498536548, 997073096, 651767980, 1994146192, 1802195444, 1303535960, 1342533948, 3988292384, 4027552580, 3604390888, 3412177804, 2607071920, 2262029012, 2685067896, 3183342108]
abbrev laidL : List (String × DataW Unit) := Rows.walActsRow.laid

theorem table {W : World} (h : laidMetH Tryd.prog laidL W) : Tab W := by
  have h1 : Lib.TabIs Tryd.prog W tabName .u32 tabI :=
    Lib.tabIs_of_head (rest := []) gTab gTabType Tryd.underlying124 Tryd.underlying102 cellsU32 cellsTab h
  have h2 : ∀ i, i < 16 → W.cell? ⟨0, i, none⟩ = some (.int .u32 (tab.getD i 0 : Nat)) := by
    intro i hi
    have h3 := h1.cell gTab i hi
    rw [h3]
    have : ∀ i, i < 16 → tabI.getD i 0 = ((tab.getD i 0 : Nat) : Int) := by decide
    rw [this i hi]
  refine ⟨?_, h2⟩
  by_cases hz : 0 < W.heap.size
  · exact hz
  · have h0 := h2 0 (by omega)
    exfalso
    have hn : W.heap[0]? = none := by
      rw [Array.getElem?_eq_none]; omega
    simp [World.cell?, hn] at h0

theorem B_of (s : ByteArray) : s = B s.data.toList := by
  obtain ⟨d⟩ := s
  rfl

section
variable {H : Type} {enc : TypeId × Value → H} {w : World} {base : Nat} {spare : Nat → Bool} {held : Bool}
theorem open_str {r : Reach} {b0 : Nat} {v : Value} {d : DataW H} {p : List MemPlace} (hv : Value.okWide Tryd.prog w r b0 9 v) (h : DataW.Trod enc Tryd.prog w base spare held 9 v d p) :
    ∃ l : List UInt8, v = .string (B l) ∧ l.length ≤ maxLen := by
  obtain ⟨s, rfl, -, -, hs⟩ := ChangeMaps.open_string Tryd.underlying9 hv h
  exact ⟨s.data.toList, rfl, hs⟩
theorem open_u16 {r : Reach} {b0 : Nat} {v : Value} {d : DataW H} {p : List MemPlace} (hv : Value.okWide Tryd.prog w r b0 22 v) (h : DataW.Trod enc Tryd.prog w base spare held 22 v d p) :
    ∃ n : Nat, v = .int .u16 n ∧ n < 65536 := by
  obtain ⟨x, rfl, -, -, wx⟩ := open_int Tryd.underlying22 hv h
  have h2 : IntKind.u16.min ≤ x ∧ x ≤ IntKind.u16.max := by simpa [Lit.wf] using wx
  have a : IntKind.u16.min = 0 := by decide
  have b : IntKind.u16.max = 65535 := by decide
  rw [a, b] at h2
  obtain ⟨n, rfl⟩ := Int.eq_ofNat_of_zero_le h2.1
  exact ⟨n, rfl, by omega⟩
theorem open_u8 {r : Reach} {b0 : Nat} {v : Value} {d : DataW H} {p : List MemPlace} (hv : Value.okWide Tryd.prog w r b0 5 v) (h : DataW.Trod enc Tryd.prog w base spare held 5 v d p) :
    ∃ n : Nat, v = .int .u8 n ∧ n < 256 := by
  obtain ⟨x, rfl, -, -, wx⟩ := open_int Tryd.underlying5 hv h
  have h2 : IntKind.u8.min ≤ x ∧ x ≤ IntKind.u8.max := by simpa [Lit.wf] using wx
  have a : IntKind.u8.min = 0 := by decide
  have b : IntKind.u8.max = 255 := by decide
  rw [a, b] at h2
  obtain ⟨n, rfl⟩ := Int.eq_ofNat_of_zero_le h2.1
  exact ⟨n, rfl, by omega⟩
theorem open_i64 {r : Reach} {b0 : Nat} {v : Value} {d : DataW H} {p : List MemPlace} (hv : Value.okWide Tryd.prog w r b0 3 v) (h : DataW.Trod enc Tryd.prog w base spare held 3 v d p) :
    ∃ x : Int, v = .int .i64 x ∧ x ≤ 9223372036854775807 := by
  obtain ⟨x, rfl, -, -, wx⟩ := open_int Tryd.underlying3 hv h
  have h2 : IntKind.i64.min ≤ x ∧ x ≤ IntKind.i64.max := by simpa [Lit.wf] using wx
  have b : IntKind.i64.max = 9223372036854775807 := by decide
  rw [b] at h2
  exact ⟨x, rfl, h2.2⟩
theorem cellsStr : Tryd.prog.cellsOf 9 = 1 := by kernel_rfl
/-- A slice of texts, by its one cell. -/
theorem strs_trod {fuel : Nat} {c : Value} {y : DataW H × List MemPlace} (hf : DataW.trod enc Tryd.prog w base spare held fuel 31 [c] = some y) :
    ∃ (l : List (List UInt8)) (A : Option Addr) (cap : Nat), c = .slice A l.length cap ∧ Strs w A cap l ∧ cap ≤ maxLen := by
  rcases open_slice Tryd.underlying31 hf with ⟨h0, -⟩ | ⟨a, len, cap, m, n, D, Pl, hcs, hb, hl, hm, hmm, hx, hi⟩
  · simp only [List.cons.injEq, and_true] at h0
    subst h0
    exact ⟨[], none, 0, rfl, ⟨Nat.le_refl _, fun i t ht => by simp at ht⟩, Nat.zero_le _⟩
  · simp only [List.cons.injEq, and_true] at hcs
    subst hcs
    have hml : len ≤ m := by rw [hmm]; split <;> omega
    rw [cellsStr] at hi
    have hc : ∀ i, i < len → ∃ t : List UInt8, w.cell? (a.add i) = some (.string (B t)) ∧ t.length ≤ maxLen := by
      intro i hil
      obtain ⟨cs', h1, h2⟩ := hi i (by omega)
      obtain ⟨s, e, -, z⟩ := DataW.trod_string Tryd.underlying9 h2
      subst e
      obtain ⟨_, _, hat⟩ := World.cells?_some h1
      have h3 := hat 0 (by omega)
      refine ⟨s.data.toList, ?_, z⟩
      simpa [Addr.add] using h3
    rcases Nat.eq_zero_or_pos len with h0 | h0
    · subst h0
      exact ⟨[], some a, cap, rfl, ⟨Nat.zero_le _, fun i t ht => by simp at ht⟩, hm⟩
    · obtain ⟨b, off, spot⟩ := a
      have hspot : spot = none := by
        obtain ⟨t, h1, -⟩ := hc 0 h0
        have h3 : w.cell? ⟨b, off, spot⟩ = some (.string (B t)) := by simpa [Addr.add] using h1
        simpa using World.cell?_spot h3
      subst hspot
      classical
      refine ⟨(List.range len).map fun i => if hlt : i < len then Classical.choose (hc i hlt) else [], some ⟨b, off, none⟩, cap, by simp, ⟨by simpa using hl, ?_⟩, hm⟩
      intro i c hic
      rw [List.getElem?_map] at hic
      rcases Nat.lt_or_ge i len with hlt | hge
      · rw [List.getElem?_range hlt] at hic
        simp only [Option.map_some, dif_pos hlt, Option.some.injEq] at hic
        have hs := Classical.choose_spec (hc i hlt)
        rw [hic] at hs
        rw [Addr.add_lit] at hs
        exact ⟨hs.2, b, off, rfl, hs.1⟩
      · rw [List.getElem?_eq_none (by simpa using hge)] at hic
        cases hic
theorem open_strs {r : Reach} {b0 : Nat} {v : Value} {d : DataW H} {p : List MemPlace} (hv : Value.okWide Tryd.prog w r b0 31 v) (h : DataW.Trod enc Tryd.prog w base spare held 31 v d p) (_ : ∀ x ∈ p, x.block < w.heap.size) :
    ∃ (l : List (List UInt8)) (A : Option Addr) (cap : Nat), v = .slice A l.length cap ∧ Strs w A cap l ∧ cap ≤ maxLen := by
  obtain ⟨A, len, cap, rfl⟩ := okWide_slice Tryd.underlying31 hv
  obtain ⟨fuel, hf⟩ := h
  exact strs_trod (c := .slice A len cap) (by simpa [Value.cells] using hf)
end

/-- An act: the plain thing, and where its texts lie. -/
structure Ac where
  kind : Int
  n : Int
  keep : Int
  texts : List (List UInt8)
  A : Option Addr
  cap : Nat
abbrev acells (c : Ac) : Array Value := #[.int .i64 c.kind, .int .i64 c.n, .int .i64 c.keep, .slice c.A c.texts.length c.cap]
/-- Four cells of an act. -/
structure ActAt (w : World) (b off : Nat) (c : Ac) : Prop where
  c0 : w.cell? ⟨b, off, none⟩ = some (.int .i64 c.kind)
  c1 : w.cell? ⟨b, off + 1, none⟩ = some (.int .i64 c.n)
  c2 : w.cell? ⟨b, off + 2, none⟩ = some (.int .i64 c.keep)
  c3 : w.cell? ⟨b, off + 3, none⟩ = some (.slice c.A c.texts.length c.cap)
theorem ActAt.old {w W : World} {b off : Nat} {c : Ac} (h : ActAt w b off c) (o : Old w W) : ActAt W b off c :=
  ⟨cell_old h.c0 o, cell_old h.c1 o, cell_old h.c2 o, cell_old h.c3 o⟩
/-- What holds of an act. -/
structure AcOk (w : World) (c : Ac) : Prop where
  n : c.n ≤ 9223372036854775807
  S : Strs w c.A c.cap c.texts
  cap : c.cap ≤ maxLen
/-- A slice of acts. -/
def Acts (w : World) (A : Option Addr) (cap : Nat) (l : List Ac) : Prop :=
  l.length ≤ cap ∧ ∀ (i : Nat) (c : Ac), l[i]? = some c → AcOk w c ∧ ∃ b off, A = some ⟨b, off, none⟩ ∧ ActAt w b (off + i * 4) c
theorem Acts.at_ {w : World} {A : Option Addr} {cap : Nat} {l : List Ac} (h : Acts w A cap l) (i : Nat) (hi : i < l.length) : AcOk w l[i] ∧ ∃ b off, A = some ⟨b, off, none⟩ ∧ ActAt w b (off + i * 4) l[i] := h.2 i _ (List.getElem?_eq_getElem hi)
section
variable {H : Type} {enc : TypeId × Value → H} {w : World} {base : Nat} {spare : Nat → Bool} {held : Bool}
theorem cellsAct : Tryd.prog.cellsOf 42 = 4 := by kernel_rfl
theorem trod_act {fuel : Nat} {cs : List Value} {y : DataW H × List MemPlace} (hf : DataW.trod enc Tryd.prog w base spare held fuel 42 cs = some y) : ∃ c : Ac, cs = (acells c).toList ∧ AcOk w c := by
  obtain ⟨xs, n, _, hx, hsz, hlen, hg⟩ := DataW.trod_struct Tryd.underlying42 hf
  match cs, hsz.trans cellsAct with
  | [c0, c1, c2, c3], _ =>
    match xs, hlen with
    | [y0, y1, y2, y3], _ =>
      have k9 : Tryd.prog.cellsOf 31 = 1 := by kernel_rfl
      have k3 : Tryd.prog.cellsOf 3 = 1 := by kernel_rfl
      have g0 : DataW.trod enc Tryd.prog w base spare held n 3 ([c0, c1, c2, c3].take (Tryd.prog.cellsOf 3)) = some y0 := hg 0 _ rfl
      have g1 : DataW.trod enc Tryd.prog w base spare held n 3 ([c1, c2, c3].take (Tryd.prog.cellsOf 3)) = some y1 := hg 1 _ rfl
      have g2 : DataW.trod enc Tryd.prog w base spare held n 3 ([c2, c3].take (Tryd.prog.cellsOf 3)) = some y2 := hg 2 _ rfl
      have g3 : DataW.trod enc Tryd.prog w base spare held n 31 ([c3].take (Tryd.prog.cellsOf 31)) = some y3 := hg 3 _ rfl
      rw [k3] at g0 g1 g2
      rw [k9] at g3
      obtain ⟨n0, e0, -, -⟩ := DataW.trod_int Tryd.underlying3 g0
      obtain ⟨n1, e1, -, w1⟩ := DataW.trod_int Tryd.underlying3 g1
      obtain ⟨n2, e2, -, -⟩ := DataW.trod_int Tryd.underlying3 g2
      simp only [List.take_succ_cons, List.take_zero, List.cons.injEq, and_true] at e0 e1 e2 g3
      obtain ⟨l, A, cap, e3, hS, hc⟩ := strs_trod g3
      subst e0 e1 e2 e3
      have h2 : IntKind.i64.min ≤ n1 ∧ n1 ≤ IntKind.i64.max := by simpa [Lit.wf] using w1
      have b : IntKind.i64.max = 9223372036854775807 := by decide
      rw [b] at h2
      exact ⟨⟨n0, n1, n2, l, A, cap⟩, rfl, h2.2, hS, hc⟩
theorem open_acts {r : Reach} {b0 : Nat} {v : Value} {d : DataW H} {p : List MemPlace} (hv : Value.okWide Tryd.prog w r b0 23 v) (h : DataW.Trod enc Tryd.prog w base spare held 23 v d p) (_ : ∀ x ∈ p, x.block < w.heap.size) :
    ∃ (l : List Ac) (A : Option Addr) (cap : Nat), v = .slice A l.length cap ∧ Acts w A cap l ∧ cap ≤ maxLen := by
  obtain ⟨A, len, cap, rfl⟩ := okWide_slice Tryd.underlying23 hv
  obtain ⟨fuel, hf⟩ := h
  rcases open_slice Tryd.underlying23 (by simpa [Value.cells] using hf) with ⟨h0, -⟩ | ⟨a, len', cap', m, n, D, Pl, hcs, hb, hl, hm, hmm, hx, hi⟩
  · simp only [List.cons.injEq, Value.slice.injEq, and_true] at h0
    obtain ⟨rfl, rfl, rfl⟩ := h0
    exact ⟨[], none, 0, rfl, ⟨Nat.le_refl _, fun i t ht => by simp at ht⟩, Nat.zero_le _⟩
  · simp only [List.cons.injEq, Value.slice.injEq, and_true] at hcs
    obtain ⟨rfl, rfl, rfl⟩ := hcs
    have hml : len ≤ m := by rw [hmm]; split <;> omega
    rw [cellsAct] at hi
    have hc : ∀ i, i < len → ∃ c : Ac, AcOk w c ∧ ∀ j, j < 4 → w.cell? ((a.add (i * 4)).add j) = (acells c)[j]? := by
      intro i hil
      obtain ⟨cs', h1, h2⟩ := hi i (by omega)
      obtain ⟨c, rfl, hok⟩ := trod_act h2
      obtain ⟨_, _, hat⟩ := World.cells?_some h1
      exact ⟨c, hok, fun j hj => by rw [hat j hj]; simp⟩
    rcases Nat.eq_zero_or_pos len with h0 | h0
    · subst h0
      exact ⟨[], some a, cap, rfl, ⟨Nat.zero_le _, fun i t ht => by simp at ht⟩, hm⟩
    · obtain ⟨b, off, spot⟩ := a
      have hspot : spot = none := by
        obtain ⟨c, -, h1⟩ := hc 0 h0
        have h2 := h1 0 (by omega)
        have h3 : w.cell? ⟨b, off, spot⟩ = some (.int .i64 c.kind) := by simpa [Addr.add] using h2
        simpa using World.cell?_spot h3
      subst hspot
      classical
      refine ⟨(List.range len).map fun i => if hlt : i < len then Classical.choose (hc i hlt) else ⟨0, 0, 0, [], none, 0⟩, some ⟨b, off, none⟩, cap, by simp, ⟨by simpa using hl, ?_⟩, hm⟩
      intro i c hic
      rw [List.getElem?_map] at hic
      rcases Nat.lt_or_ge i len with hlt | hge
      · rw [List.getElem?_range hlt] at hic
        simp only [Option.map_some, dif_pos hlt, Option.some.injEq] at hic
        have hs := Classical.choose_spec (hc i hlt)
        rw [hic] at hs
        have hj : ∀ j, j < 4 → w.cell? ⟨b, off + i * 4 + j, none⟩ = (acells c)[j]? := fun j hj => by
          have := hs.2 j hj
          rwa [Addr.add_lit, Addr.add_lit] at this
        exact ⟨hs.1, b, off, rfl, ⟨hj 0 (by omega), hj 1 (by omega), hj 2 (by omega), hj 3 (by omega)⟩⟩
      · rw [List.getElem?_eq_none (by simpa using hge)] at hic
        cases hic
end
section
variable {H : Type} {enc : TypeId × Value → H} {P : Program} {w : World} {base : Nat} {spare : Nat → Bool} {held : Bool}
theorem trodAll_four' {t t' t'' t3 : TypeId} {args : Array Value} {ds : List (DataW H)} {ps : List MemPlace} (h : DataW.TrodAll enc P w base spare held [t, t', t'', t3] args.toList ds ps) :
    ∃ v v' v'' v3 d d' d'' d3 p p' p'' p3, args = #[v, v', v'', v3] ∧ ds = [d, d', d'', d3] ∧ ps = p ++ (p' ++ (p'' ++ p3)) ∧ DataW.Trod enc P w base spare held t v d p ∧ DataW.Trod enc P w base spare held t' v' d' p' ∧ DataW.Trod enc P w base spare held t'' v'' d'' p'' ∧ DataW.Trod enc P w base spare held t3 v3 d3 p3 := by
  obtain ⟨v, vs, d, ds', p, q, hargs, rfl, rfl, hd, hrest⟩ := trodAll_cons h
  obtain ⟨v', vs', d', ds2, p', q', rfl, rfl, rfl, hd', hrest'⟩ := trodAll_cons hrest
  obtain ⟨v'', vs'', d'', ds3, p'', q'', rfl, rfl, rfl, hd'', hrest''⟩ := trodAll_cons hrest'
  obtain ⟨v3, vs3, d3, ds4, p3, q3, rfl, rfl, rfl, hd3, hrest3⟩ := trodAll_cons hrest''
  obtain ⟨rfl, rfl, rfl⟩ := trodAll_nil hrest3
  exact ⟨v, v', v'', v3, d, d', d'', d3, p, p', p'', p3, by cases args; simp_all, rfl, by simp, hd, hd', hd'', hd3⟩
end

/-- A world for the witness: the table (block 0) holding what its initialiser lays. -/
noncomputable def laidWorld (os : Os) : World :=
  { World.holding Tryd.prog os ⟨#[], #[], []⟩ with heap := (World.holding Tryd.prog os ⟨#[], #[], []⟩).heap.modify 0 fun
      | .cells _ t frozen => .cells (tabI.map fun z => Value.int .u32 z).toArray t frozen
      | o => o }
end Go.Proofs.YtilimfbjkgeciaaDoor
