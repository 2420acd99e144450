/-
  From a law's walk to its row and its card: what came in, what the variables hold, the witness's world. No conditions.
-/
import Derived.Test.YtacniohflhpgaaaDoorPSho
import Derived.Test.YtacniohflhpgaaaDoorCards
import Derived.Test.YtacniohflhpgaaaDoorTie
import Derived.ProofKit
import Derived.OpenShut
import Derived.Lib.SmallJoins
import Derived.Deep.DeepHandedRow
import Derived.Deep.DeepLaidRun
import Derived.Lib.LaidTab
import Derived.Stop.LaidErr
import Derived.Shelf.Vars
namespace Go.Proofs.YtacniohflhpgaaaDoor
open Go.ChangeShapes Go.WideShapes Go.ChangeAt Go.RowKit Go.Joins Go.Deep

theorem Tryd.own : ownKnob Tryd.prog.godebug = none := by kernel_rfl
theorem Tryd.laidOut : laidOutB Tryd.prog = true := by kernel_rfl
theorem maxOf {W : World} (sh : W.ShapedOpen Tryd.prog) : ∃ m : Int, W.cell? ⟨1, 0, none⟩ = some (.int .i64 m) :=
  cell_of_shapedOpen_int (zero := #[.int .i64 0]) (t := 3) sh (by decide +kernel) (by kernel_rfl) rfl (by kernel_rfl) (by kernel_rfl) Tryd.underlying3
theorem gPow : Tryd.prog.globalNamed powName = some 6 := by kernel_rfl
theorem gPowType : (Tryd.prog.globals[6]?).map (·.type) = some 108 := by kernel_rfl
theorem cellsPow : Tryd.prog.cellsOf 108 = 20 := by kernel_rfl
theorem cellsU64 : Tryd.prog.cellsOf 31 = 1 := by kernel_rfl
abbrev synName : String := Rows.parsePrintsRow.named.getD 3 ""
abbrev rngName : String := Rows.parsePrintsRow.named.getD 4 ""
theorem gSyn : Tryd.prog.globalNamed synName = some 4 := by kernel_rfl
theorem gRng : Tryd.prog.globalNamed rngName = some 5 := by kernel_rfl
theorem gSynType : (Tryd.prog.globals[4]?).map (·.type) = some 51 := by kernel_rfl
theorem gRngType : (Tryd.prog.globals[5]?).map (·.type) = some 51 := by kernel_rfl
/-- The error's type, as the rows name it. -/
def nmOf : DataW Unit → String
  | .iface n _ => n
  | _ => ""
abbrev errName : String := nmOf Rows.laid_strconv_ErrSyntax
theorem rowErr (u : TypeId) (h : Tryd.prog.typeName? 3 u = some errName) : u = 112 := by
  refine typeName_ptr_named (nm := "errors.errorString") ?_ (by kernel_rfl) (by decide) u (h.trans (congrArg some (by decide)))
  refine Eq.trans (congrArg (fun (s : String) => (List.range Tryd.prog.types.size).all fun u => Tryd.prog.typeName? 3 u != some s || u == 112) (a₂ := errName) ?_) (by kernel_rfl)
  decide
theorem cellsErr : Tryd.prog.cellsOf 114 = 1 := by kernel_rfl
theorem cellsStr : Tryd.prog.cellsOf 9 = 1 := by kernel_rfl
theorem envOf {W : World} {r1 r2 r3 : List (String × DataW Unit)} (h1 : laidMet Tryd.prog ((powName, Rows.laid_internal_strconv_uint64pow10) :: r1) W) (h2 : laidMet Tryd.prog ((rngName, Rows.laid_strconv_ErrRange) :: r2) W) (h3 : laidMet Tryd.prog ((synName, Rows.laid_strconv_ErrSyntax) :: r3) W) (sh : W.ShapedOpen Tryd.prog) : Env W := by
  obtain ⟨a0, s0, hv0, -, -, -⟩ := laid_sentinel h2 gRng gRngType Tryd.underlying51 rowErr Tryd.underlying112 Tryd.underlying114 rfl rfl Tryd.underlying9 cellsErr cellsStr
  obtain ⟨a1, s1, hv1, -, -, -⟩ := laid_sentinel h3 gSyn gSynType Tryd.underlying51 rowErr Tryd.underlying112 Tryd.underlying114 rfl rfl Tryd.underlying9 cellsErr cellsStr
  have e1 : W.cell? ⟨4, 0, none⟩ = some (.iface 112 (.pointer (some a1))) := by have h0 := World.var?_cell gSyn hv1 0; simpa using h0
  have e2 : W.cell? ⟨5, 0, none⟩ = some (.iface 112 (.pointer (some a0))) := by have h0 := World.var?_cell gRng hv0 0; simpa using h0
  exact ⟨maxOf sh, ⟨_, _, e1⟩, ⟨_, _, e2⟩, Lib.tabIs_of_head (zs := Lib.pow10Tab) (rest := r1) gPow gPowType Tryd.underlying108 Tryd.underlying31 cellsU64 cellsPow h1⟩
theorem envP {W : World} (h : laidMetH Tryd.prog Rows.parsePrintsRow.laid W) (sh : W.ShapedOpen Tryd.prog) : Env W := by
  have h0 : laidMet Tryd.prog Rows.parsePrintsRow.laid W := h
  have h1 := laidMet.tail (laidMet.tail h0)
  exact envOf h1 (laidMet.tail (laidMet.tail h1)) (laidMet.tail (laidMet.tail (laidMet.tail h1))) sh
theorem envC {W : World} (h : laidMetH Tryd.prog Rows.parseCellsRow.laid W) (sh : W.ShapedOpen Tryd.prog) : Env W := by
  have h0 : laidMet Tryd.prog Rows.parseCellsRow.laid W := h
  have h1 := laidMet.tail (laidMet.tail h0)
  exact envOf h1 (laidMet.tail (laidMet.tail (laidMet.tail h1))) (laidMet.tail (laidMet.tail (laidMet.tail (laidMet.tail h1)))) sh

/- A world for the witness: each variable holds what its initialiser lays. -/
def lit1 : DataW Unit → Value
  | .lit (.int k z) => .int k z
  | _ => .nilIface
def lits : DataW Unit → List Value
  | .agg xs => xs.map lit1
  | _ => []
def lits2 : DataW Unit → List Value
  | .agg xs => xs.flatMap lits
  | _ => []
/-- So many blocks has the settled world. -/
noncomputable def low : Nat := (World.holding Tryd.prog default ⟨#[], #[], []⟩).heap.size
def putAll (cs : Array Value) : Obj → Obj
  | .cells _ t frozen => .cells cs t frozen
  | o => o
abbrev synS : ByteArray := { data := #[105, 110, 118, 97, 108, 105, 100, 32, 115, 121, 110, 116, 97, 120] }
abbrev rngS : ByteArray := { data := #[118, 97, 108, 117, 101, 32, 111, 117, 116, 32, 111, 102, 32, 114, 97, 110, 103, 101] }
noncomputable def laidWorld (os : Os) : World :=
  let w0 := World.holding Tryd.prog os ⟨#[.cells #[.string synS] 114, .cells #[.string rngS] 114], #[], []⟩
  { w0 with heap := (((((((w0.heap.modify 0 (putAll (lits Rows.laid_rickyard_crc_quarters).toArray)).modify 2 (putAll (lits Rows.laid_unicode_utf8_first).toArray)).modify 3 (putAll (lits2 Rows.laid_unicode_utf8_acceptRanges).toArray)).modify 4 (putAll #[.iface 112 (.pointer (some ⟨low, 0, none⟩))])).modify 5 (putAll #[.iface 112 (.pointer (some ⟨low + 1, 0, none⟩))])).modify 6 (putAll (lits Rows.laid_internal_strconv_uint64pow10).toArray)).modify 7 (putAll (lits Rows.laid_math_bits_deBruijn32tab).toArray)).modify 8 (putAll (lits Rows.laid_math_bits_deBruijn64tab).toArray) }

/-- The numbers are of 64 bits. -/
def Cel.ok (c : Cel) : Prop := c.ts < 18446744073709551616 ∧ c.seq < 18446744073709551616
/-- A slice at A of these texts. -/
def Strs (w : World) (A : Option Addr) (cap : Nat) (l : List (List UInt8)) : Prop :=
  l.length ≤ cap ∧ ∀ (i : Nat) (t : List UInt8), l[i]? = some t → t.length ≤ maxLen ∧ ∃ b off, A = some ⟨b, off, none⟩ ∧ w.cell? ⟨b, off + i, none⟩ = some (.string (B t))
theorem Strs.at_ {w : World} {A : Option Addr} {cap : Nat} {l : List (List UInt8)} (h : Strs w A cap l) (i : Nat) (hi : i < l.length) : l[i].length ≤ maxLen ∧ ∃ b off, A = some ⟨b, off, none⟩ ∧ w.cell? ⟨b, off + i, none⟩ = some (.string (B l[i])) := h.2 i _ (List.getElem?_eq_getElem hi)
theorem Strs.old {w W : World} {A : Option Addr} {cap : Nat} {l : List (List UInt8)} (h : Strs w A cap l) (k : Old w W) : Strs W A cap l := by
  refine ⟨h.1, fun i t ht => ?_⟩
  obtain ⟨h1, b, off, rfl, h2⟩ := h.2 i t ht
  exact ⟨h1, b, off, rfl, cell_old h2 k⟩
theorem u64_of_wf {x : Int} (h : (Lit.int .u64 x).wf = true) : 0 ≤ x ∧ x < 18446744073709551616 := by
  have h2 : IntKind.u64.min ≤ x ∧ x ≤ IntKind.u64.max := by simpa [Lit.wf] using h
  have a : IntKind.u64.min = 0 := by decide
  have b : IntKind.u64.max = 18446744073709551615 := by decide
  rw [a, b] at h2
  omega
theorem Tryd.cells24 : Tryd.prog.cellsOf 33 = 6 := by kernel_rfl
/-- A slice at A of these bytes. -/
def Bys (w : World) (A : Option Addr) (cap : Nat) (l : List UInt8) : Prop :=
  l.length ≤ cap ∧ ∀ (i : Nat) (t : UInt8), l[i]? = some t → ∃ b off, A = some ⟨b, off, none⟩ ∧ w.cell? ⟨b, off + i, none⟩ = some (.int .u8 (t.toNat : Int))
theorem Bys.at_ {w : World} {A : Option Addr} {cap : Nat} {l : List UInt8} (h : Bys w A cap l) (i : Nat) (hi : i < l.length) : ∃ b off, A = some ⟨b, off, none⟩ ∧ w.cell? ⟨b, off + i, none⟩ = some (.int .u8 (l[i].toNat : Int)) := h.2 i _ (List.getElem?_eq_getElem hi)
theorem Bys.old {w W : World} {A : Option Addr} {cap : Nat} {l : List UInt8} (h : Bys w A cap l) (k : Old w W) : Bys W A cap l := by
  refine ⟨h.1, fun i t ht => ?_⟩
  obtain ⟨b, off, rfl, h2⟩ := h.2 i t ht
  exact ⟨b, off, rfl, cell_old h2 k⟩
theorem cellsU8 : Tryd.prog.cellsOf 5 = 1 := by kernel_rfl
theorem u8_of_wf {x : Int} (h : (Lit.int .u8 x).wf = true) : ∃ t : UInt8, x = (t.toNat : Int) := by
  have h2 : IntKind.u8.min ≤ x ∧ x ≤ IntKind.u8.max := by simpa [Lit.wf] using h
  have a : IntKind.u8.min = 0 := by decide
  have b : IntKind.u8.max = 255 := by decide
  rw [a, b] at h2
  refine ⟨UInt8.ofNat x.toNat, ?_⟩
  rw [UInt8.toNat_ofNat']
  omega
section
variable {H : Type} {enc : TypeId × Value → H} {w : World} {base : Nat} {spare : Nat → Bool} {held : Bool}
set_option maxRecDepth 100000 in
theorem open_str {r : Reach} {b0 : Nat} {v : Value} {d : DataW H} {p : List MemPlace} (hv : Value.okWide Tryd.prog w r b0 9 v) (h : DataW.Trod enc Tryd.prog w base spare held 9 v d p) :
    ∃ l : List UInt8, v = .string (B l) ∧ l.length ≤ maxLen := by
  obtain ⟨s, rfl, -, -, hs⟩ := ChangeMaps.open_string Tryd.underlying9 hv h
  exact ⟨s.data.toList, rfl, hs⟩
set_option maxRecDepth 100000 in
theorem open_u16 {r : Reach} {b0 : Nat} {v : Value} {d : DataW H} {p : List MemPlace} (hv : Value.okWide Tryd.prog w r b0 41 v) (h : DataW.Trod enc Tryd.prog w base spare held 41 v d p) :
    ∃ n : Nat, v = .int .u16 n ∧ n < 65536 := by
  obtain ⟨x, rfl, -, -, wx⟩ := open_int Tryd.underlying41 hv h
  have h2 : IntKind.u16.min ≤ x ∧ x ≤ IntKind.u16.max := by simpa [Lit.wf] using wx
  have a : IntKind.u16.min = 0 := by decide
  have b : IntKind.u16.max = 65535 := by decide
  rw [a, b] at h2
  obtain ⟨n, rfl⟩ := Int.eq_ofNat_of_zero_le h2.1
  exact ⟨n, rfl, by omega⟩
set_option maxRecDepth 100000 in
theorem trod_cel {fuel : Nat} {cs : List Value} {y : DataW H × List MemPlace} (hf : DataW.trod enc Tryd.prog w base spare held fuel 33 cs = some y) : ∃ c : Cel, cs = (cells c).toList ∧ c.ok := by
  obtain ⟨xs, n, _, hx, hsz, hlen, hg⟩ := DataW.trod_struct Tryd.underlying33 hf
  match cs, hsz.trans Tryd.cells24 with
  | [c0, c1, c2, c3, c4, c5], _ =>
    match xs, hlen with
    | [y0, y1, y2, y3, y4, y5], _ =>
      have k9 : Tryd.prog.cellsOf 9 = 1 := by kernel_rfl
      have k22 : Tryd.prog.cellsOf 31 = 1 := by kernel_rfl
      have k4 : Tryd.prog.cellsOf 4 = 1 := by kernel_rfl
      have g0 : DataW.trod enc Tryd.prog w base spare held n 9 ([c0, c1, c2, c3, c4, c5].take (Tryd.prog.cellsOf 9)) = some y0 := hg 0 _ rfl
      have g1 : DataW.trod enc Tryd.prog w base spare held n 9 ([c1, c2, c3, c4, c5].take (Tryd.prog.cellsOf 9)) = some y1 := hg 1 _ rfl
      have g2 : DataW.trod enc Tryd.prog w base spare held n 31 ([c2, c3, c4, c5].take (Tryd.prog.cellsOf 31)) = some y2 := hg 2 _ rfl
      have g3 : DataW.trod enc Tryd.prog w base spare held n 31 ([c3, c4, c5].take (Tryd.prog.cellsOf 31)) = some y3 := hg 3 _ rfl
      have g4 : DataW.trod enc Tryd.prog w base spare held n 4 ([c4, c5].take (Tryd.prog.cellsOf 4)) = some y4 := hg 4 _ rfl
      have g5 : DataW.trod enc Tryd.prog w base spare held n 9 ([c5].take (Tryd.prog.cellsOf 9)) = some y5 := hg 5 _ rfl
      rw [k9] at g0 g1 g5
      rw [k22] at g2 g3
      rw [k4] at g4
      obtain ⟨s0, e0, -, z0⟩ := DataW.trod_string Tryd.underlying9 g0
      obtain ⟨s1, e1, -, z1⟩ := DataW.trod_string Tryd.underlying9 g1
      obtain ⟨n2, e2, -, z2⟩ := DataW.trod_int Tryd.underlying31 g2
      obtain ⟨n3, e3, -, z3⟩ := DataW.trod_int Tryd.underlying31 g3
      obtain ⟨b4, e4, -⟩ := DataW.trod_bool Tryd.underlying4 g4
      obtain ⟨s5, e5, -, z5⟩ := DataW.trod_string Tryd.underlying9 g5
      simp only [List.take_succ_cons, List.take_zero, List.cons.injEq, and_true] at e0 e1 e2 e3 e4 e5
      subst e0 e1 e2 e3 e4 e5
      obtain ⟨p2, q2⟩ := u64_of_wf z2
      obtain ⟨p3, q3⟩ := u64_of_wf z3
      obtain ⟨m2, rfl⟩ := Int.eq_ofNat_of_zero_le p2
      obtain ⟨m3, rfl⟩ := Int.eq_ofNat_of_zero_le p3
      exact ⟨⟨s0.data.toList, s1.data.toList, m2, m3, b4, s5.data.toList⟩, rfl, by show m2 < _; omega, by show m3 < _; omega⟩
set_option maxRecDepth 100000 in
theorem open_cels {r : Reach} {b0 : Nat} {v : Value} {d : DataW H} {p : List MemPlace} (hv : Value.okWide Tryd.prog w r b0 23 v) (h : DataW.Trod enc Tryd.prog w base spare held 23 v d p) (_ : ∀ x ∈ p, x.block < w.heap.size) :
    ∃ l : List Cel, Cels w v l ∧ (∀ c ∈ l, c.ok) ∧ l.length ≤ maxLen ∧ ∃ A cap, v = .slice A l.length cap ∧ l.length ≤ cap := by
  obtain ⟨A, len, cap, rfl⟩ := okWide_slice Tryd.underlying23 hv
  obtain ⟨fuel, hf⟩ := h
  rcases open_slice Tryd.underlying23 (by simpa [Value.cells] using hf) with ⟨h0, -⟩ | ⟨a, len', cap', m, n, D, Pl, hcs, hb, hl, hm, hmm, hx, hi⟩
  · simp only [List.cons.injEq, Value.slice.injEq, and_true] at h0
    obtain ⟨rfl, rfl, rfl⟩ := h0
    exact ⟨[], .inl ⟨rfl, none, 0, rfl⟩, by simp, by simp, none, 0, rfl, Nat.le_refl _⟩
  · simp only [List.cons.injEq, Value.slice.injEq, and_true] at hcs
    obtain ⟨rfl, rfl, rfl⟩ := hcs
    have hml : len ≤ m := by rw [hmm]; split <;> omega
    rw [Tryd.cells24] at hi
    have hc : ∀ i, i < len → ∃ c : Cel, c.ok ∧ ∀ j, j < 6 → w.cell? ((a.add (i * 6)).add j) = (cells c)[j]? := by
      intro i hil
      obtain ⟨cs', h1, h2⟩ := hi i (by omega)
      obtain ⟨c, rfl, hok⟩ := trod_cel h2
      obtain ⟨_, _, hat⟩ := World.cells?_some h1
      exact ⟨c, hok, fun j hj => by rw [hat j hj]; simp⟩
    rcases Nat.eq_zero_or_pos len with h0 | h0
    · subst h0
      exact ⟨[], .inl ⟨rfl, some a, cap, rfl⟩, by simp, by simp, some a, cap, rfl, by simp⟩
    · obtain ⟨b, off, spot⟩ := a
      have hspot : spot = none := by
        obtain ⟨c, -, h1⟩ := hc 0 h0
        have h2 := h1 0 (by omega)
        have h3 : w.cell? ⟨b, off, spot⟩ = some (.string (B c.row)) := by simpa [Addr.add] using h2
        simpa using World.cell?_spot h3
      subst hspot
      classical
      refine ⟨(List.range len).map fun i => if hlt : i < len then Classical.choose (hc i hlt) else ⟨[], [], 0, 0, false, []⟩, .inr ⟨b, off, cap, by simp, ?_⟩, ?_, by simp; omega, some ⟨b, off, none⟩, cap, by simp, by simp; omega⟩
      rotate_left
      · intro c hcm
        obtain ⟨i, hi2, rfl⟩ := List.mem_map.1 hcm
        have hlt := List.mem_range.1 hi2
        simp only [dif_pos hlt]
        exact (Classical.choose_spec (hc i hlt)).1
      intro i c hic
      rw [List.getElem?_map] at hic
      rcases Nat.lt_or_ge i len with hlt | hge
      · rw [List.getElem?_range hlt] at hic
        simp only [Option.map_some, dif_pos hlt, Option.some.injEq] at hic
        have hs := (Classical.choose_spec (hc i hlt)).2
        rw [hic] at hs
        have hj : ∀ j, j < 6 → w.cell? ⟨b, off + i * 6 + j, none⟩ = (cells c)[j]? := fun j hj => by
          have := hs j hj
          rwa [Addr.add_lit, Addr.add_lit] at this
        exact ⟨hj 0 (by omega), hj 1 (by omega), hj 2 (by omega), hj 3 (by omega), hj 4 (by omega), hj 5 (by omega)⟩
      · rw [List.getElem?_eq_none (by simpa using hge)] at hic
        cases hic
set_option maxRecDepth 100000 in
theorem open_strs {r : Reach} {b0 : Nat} {v : Value} {d : DataW H} {p : List MemPlace} (hv : Value.okWide Tryd.prog w r b0 38 v) (h : DataW.Trod enc Tryd.prog w base spare held 38 v d p) (_ : ∀ x ∈ p, x.block < w.heap.size) :
    ∃ (l : List (List UInt8)) (A : Option Addr) (cap : Nat), v = .slice A l.length cap ∧ Strs w A cap l ∧ cap ≤ maxLen := by
  obtain ⟨A, len, cap, rfl⟩ := okWide_slice Tryd.underlying38 hv
  obtain ⟨fuel, hf⟩ := h
  rcases open_slice Tryd.underlying38 (by simpa [Value.cells] using hf) with ⟨h0, -⟩ | ⟨a, len', cap', m, n, D, Pl, hcs, hb, hl, hm, hmm, hx, hi⟩
  · simp only [List.cons.injEq, Value.slice.injEq, and_true] at h0
    obtain ⟨rfl, rfl, rfl⟩ := h0
    exact ⟨[], none, 0, rfl, ⟨Nat.le_refl _, fun i t ht => by simp at ht⟩, Nat.zero_le _⟩
  · simp only [List.cons.injEq, Value.slice.injEq, and_true] at hcs
    obtain ⟨rfl, rfl, rfl⟩ := hcs
    have hml : len ≤ m := by rw [hmm]; split <;> omega
    rw [cellsStr] at hi
    have hc : ∀ i, i < len → ∃ t : List UInt8, w.cell? (a.add i) = some (.string (B t)) ∧ t.length ≤ maxLen := by
      intro i hil
      obtain ⟨cs', h1, h2⟩ := hi i (by omega)
      obtain ⟨s, e, -, z⟩ := DataW.trod_string Tryd.underlying9 h2
      subst e
      obtain ⟨_, _, hat⟩ := World.cells?_some h1
      have h3 := hat 0 (by omega)
      refine ⟨s.data.toList, ?_, z⟩
      simpa [Addr.add] using h3
    rcases Nat.eq_zero_or_pos len with h0 | h0
    · subst h0
      exact ⟨[], some a, cap, rfl, ⟨Nat.zero_le _, fun i t ht => by simp at ht⟩, hm⟩
    · obtain ⟨b, off, spot⟩ := a
      have hspot : spot = none := by
        obtain ⟨t, h1, -⟩ := hc 0 h0
        have h3 : w.cell? ⟨b, off, spot⟩ = some (.string (B t)) := by simpa [Addr.add] using h1
        simpa using World.cell?_spot h3
      subst hspot
      classical
      refine ⟨(List.range len).map fun i => if hlt : i < len then Classical.choose (hc i hlt) else [], some ⟨b, off, none⟩, cap, by simp, ⟨by simpa using hl, ?_⟩, hm⟩
      intro i c hic
      rw [List.getElem?_map] at hic
      rcases Nat.lt_or_ge i len with hlt | hge
      · rw [List.getElem?_range hlt] at hic
        simp only [Option.map_some, dif_pos hlt, Option.some.injEq] at hic
        have hs := Classical.choose_spec (hc i hlt)
        rw [hic] at hs
        rw [Addr.add_lit] at hs
        exact ⟨hs.2, b, off, rfl, hs.1⟩
      · rw [List.getElem?_eq_none (by simpa using hge)] at hic
        cases hic
set_option maxRecDepth 100000 in
theorem open_bl {r : Reach} {b0 : Nat} {v : Value} {d : DataW H} {p : List MemPlace} (hv : Value.okWide Tryd.prog w r b0 4 v) (h : DataW.Trod enc Tryd.prog w base spare held 4 v d p) :
    ∃ x : Bool, v = .bool x := by
  obtain ⟨x, rfl, -⟩ := open_bool Tryd.underlying4 hv h
  exact ⟨x, rfl⟩
set_option maxRecDepth 100000 in
theorem open_u8s {r : Reach} {b0 : Nat} {v : Value} {d : DataW H} {p : List MemPlace} (hv : Value.okWide Tryd.prog w r b0 37 v) (h : DataW.Trod enc Tryd.prog w base spare held 37 v d p) (_ : ∀ x ∈ p, x.block < w.heap.size) :
    ∃ (l : List UInt8) (A : Option Addr) (cap : Nat), v = .slice A l.length cap ∧ Bys w A cap l ∧ cap ≤ maxLen := by
  obtain ⟨A, len, cap, rfl⟩ := okWide_slice Tryd.underlying37 hv
  obtain ⟨fuel, hf⟩ := h
  rcases open_slice Tryd.underlying37 (by simpa [Value.cells] using hf) with ⟨h0, -⟩ | ⟨a, len', cap', m, n, D, Pl, hcs, hb, hl, hm, hmm, hx, hi⟩
  · simp only [List.cons.injEq, Value.slice.injEq, and_true] at h0
    obtain ⟨rfl, rfl, rfl⟩ := h0
    exact ⟨[], none, 0, rfl, ⟨Nat.le_refl _, fun i t ht => by simp at ht⟩, Nat.zero_le _⟩
  · simp only [List.cons.injEq, Value.slice.injEq, and_true] at hcs
    obtain ⟨rfl, rfl, rfl⟩ := hcs
    have hml : len ≤ m := by rw [hmm]; split <;> omega
    rw [cellsU8] at hi
    have hc : ∀ i, i < len → ∃ t : UInt8, w.cell? (a.add i) = some (.int .u8 (t.toNat : Int)) ∧ True := by
      intro i hil
      obtain ⟨cs', h1, h2⟩ := hi i (by omega)
      obtain ⟨s, e, -, z⟩ := DataW.trod_int Tryd.underlying5 h2
      subst e
      obtain ⟨t, rfl⟩ := u8_of_wf z
      obtain ⟨_, _, hat⟩ := World.cells?_some h1
      have h3 := hat 0 (by omega)
      refine ⟨t, ?_, trivial⟩
      simpa [Addr.add] using h3
    rcases Nat.eq_zero_or_pos len with h0 | h0
    · subst h0
      exact ⟨[], some a, cap, rfl, ⟨Nat.zero_le _, fun i t ht => by simp at ht⟩, hm⟩
    · obtain ⟨b, off, spot⟩ := a
      have hspot : spot = none := by
        obtain ⟨t, h1, -⟩ := hc 0 h0
        have h3 : w.cell? ⟨b, off, spot⟩ = some (.int .u8 (t.toNat : Int)) := by simpa [Addr.add] using h1
        simpa using World.cell?_spot h3
      subst hspot
      classical
      refine ⟨(List.range len).map fun i => if hlt : i < len then Classical.choose (hc i hlt) else 0, some ⟨b, off, none⟩, cap, by simp, ⟨by simpa using hl, ?_⟩, hm⟩
      intro i c hic
      rw [List.getElem?_map] at hic
      rcases Nat.lt_or_ge i len with hlt | hge
      · rw [List.getElem?_range hlt] at hic
        simp only [Option.map_some, dif_pos hlt, Option.some.injEq] at hic
        have hs := Classical.choose_spec (hc i hlt)
        rw [hic] at hs
        rw [Addr.add_lit] at hs
        exact ⟨b, off, rfl, hs.1⟩
      · rw [List.getElem?_eq_none (by simpa using hge)] at hic
        cases hic
end
end Go.Proofs.YtacniohflhpgaaaDoor
