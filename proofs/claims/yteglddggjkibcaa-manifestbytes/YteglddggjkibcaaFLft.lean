/-
  From a law's walk to its row: files, edits, texts and numbers that came in. No conditions.
-/
import Derived.Test.YteglddggjkibcaaFShn
import Derived.SizedLaws
import Derived.ProofKit
import Derived.Lib.SmallJoins
namespace Go.Proofs.Yteglddggjkibcaa
open Go.ChangeShapes Go.WideShapes Go.ChangeAt Go.RowKit Go.Joins Go.Deep

theorem Try.own : ownKnob Try.prog.godebug = none := by kernel_rfl
theorem Try.laidOut : laidOutB Try.prog = true := by kernel_rfl
theorem cellsFile : Try.prog.cellsOf 60 = 5 := by kernel_rfl
theorem cellsEdit : Try.prog.cellsOf 34 = 4 := by kernel_rfl
theorem cellsStr : Try.prog.cellsOf 9 = 1 := by kernel_rfl
theorem cellsInt : Try.prog.cellsOf 3 = 1 := by kernel_rfl
theorem cellsU64 : Try.prog.cellsOf 25 = 1 := by kernel_rfl
theorem cellsFiles : Try.prog.cellsOf 24 = 1 := by kernel_rfl
theorem cellsStrs : Try.prog.cellsOf 32 = 1 := by kernel_rfl
theorem B_of (s : ByteArray) : s = B s.data.toList := by
  obtain ⟨d⟩ := s
  rfl
theorem u64_of_wf {x : Int} (h : (Lit.int .u64 x).wf = true) : 0 ≤ x ∧ x < 18446744073709551616 := by
  have h2 : IntKind.u64.min ≤ x ∧ x ≤ IntKind.u64.max := by simpa [Lit.wf] using h
  have a : IntKind.u64.min = 0 := by decide
  have b : IntKind.u64.max = 18446744073709551615 := by decide
  rw [a, b] at h2
  omega
/-- One for each. -/
theorem list_choose {α : Type} {P : Nat → α → Prop} : ∀ (n : Nat), (∀ i, i < n → ∃ x, P i x) → ∃ l : List α, l.length = n ∧ ∀ i x, l[i]? = some x → P i x
  | 0, _ => ⟨[], rfl, fun i x h => by simp at h⟩
  | n + 1, h => by
    obtain ⟨l, h1, h2⟩ := list_choose n fun i hi => h i (by omega)
    obtain ⟨x, hx⟩ := h n (by omega)
    refine ⟨l ++ [x], by simp [h1], fun i y hy => ?_⟩
    rcases Nat.lt_or_ge i n with hi | hi
    · rw [List.getElem?_append_left (by omega)] at hy
      exact h2 i y hy
    · rw [List.getElem?_append_right (by omega), h1] at hy
      have hi2 : i - n = 0 := by
        rcases Nat.eq_zero_or_pos (i - n) with h | h
        · exact h
        · rw [List.getElem?_eq_none (by simp; omega)] at hy; cases hy
      rw [hi2] at hy
      simp at hy
      subst hy
      obtain rfl : i = n := by omega
      exact hx

/-- An edit lies here. -/
def EdAt (w : World) (b o : Nat) (e : Ed) : Prop :=
  ∃ va Ad dc, (w.cell? ⟨b, o, none⟩ = some va ∧ w.cell? ⟨b, o + 1, none⟩ = some (.slice Ad e.del.length dc) ∧ w.cell? ⟨b, o + 2, none⟩ = some (.int .u64 (e.next : Int)) ∧ w.cell? ⟨b, o + 3, none⟩ = some (.int .u64 (e.fl : Int))) ∧
    Itms w va e.add ∧ Strs w Ad dc e.del ∧ e.add.length ≤ maxLen ∧ dc ≤ maxLen ∧ e.next < 18446744073709551616 ∧ e.fl < 18446744073709551616
/-- A slice that reads as these edits. -/
def Eds (w : World) (v : Value) (l : List Ed) : Prop := (v = .slice none 0 0 ∧ l = []) ∨ ∃ A cap, v = .slice (some A) l.length cap ∧ l.length ≤ cap ∧ (l ≠ [] → ∃ b off, A = ⟨b, off, none⟩ ∧ ∀ (i : Nat) (e : Ed), l[i]? = some e → EdAt w b (off + i * 4) e)
theorem EdAt.old {w W : World} {b o : Nat} {e : Ed} (h : EdAt w b o e) (k : Old w W) : EdAt W b o e := by
  obtain ⟨va, Ad, dc, ⟨h0, h1, h2, h3⟩, h4, h5, h6⟩ := h
  exact ⟨va, Ad, dc, ⟨cell_old h0 k, cell_old h1 k, cell_old h2 k, cell_old h3 k⟩, h4.old k, h5.old k, h6⟩
theorem Eds.form {w : World} {v : Value} {l : List Ed} (h : Eds w v l) : ∃ A cap, v = .slice A l.length cap ∧ l.length ≤ cap := by
  rcases h with ⟨rfl, rfl⟩ | ⟨A, cap, h1, h2, h3⟩
  · exact ⟨none, 0, rfl, Nat.le_refl _⟩
  · exact ⟨_, _, h1, h2⟩
theorem Eds.at_ {w : World} {A : Option Addr} {n cap : Nat} {l : List Ed} (h : Eds w (.slice A n cap) l) {i : Nat} {e : Ed} (hx : l[i]? = some e) : ∃ b off, A = some ⟨b, off, none⟩ ∧ EdAt w b (off + i * 4) e := by
  rcases h with ⟨h1, rfl⟩ | ⟨A', cap', h1, h2, h3⟩
  · simp at hx
  · obtain ⟨b, off, rfl, k⟩ := h3 (by rintro rfl; simp at hx)
    injection h1 with e1 e2 e3
    exact ⟨b, off, e1, k i e hx⟩
theorem Eds.old {w W : World} {v : Value} {l : List Ed} (h : Eds w v l) (k : Old w W) : Eds W v l := by
  rcases h with h | ⟨A, cap, h1, h2, h3⟩
  · exact .inl h
  · refine .inr ⟨A, cap, h1, h2, fun hl => ?_⟩
    obtain ⟨b, off, e, q⟩ := h3 hl
    exact ⟨b, off, e, fun i x hx => (q i x hx).old k⟩

section
variable {H : Type} {enc : TypeId × Value → H} {w : World} {base : Nat} {spare : Nat → Bool} {held : Bool}
set_option maxRecDepth 100000 in
theorem trod_file {fuel : Nat} {cs : List Value} {y : DataW H × List MemPlace} (hf : DataW.trod enc Try.prog w base spare held fuel 60 cs = some y) : ∃ c : Itm, cs = (icells c).toList := by
  obtain ⟨xs, n, _, hx, hsz, hlen, hg⟩ := DataW.trod_struct Try.underlying60 hf
  match cs, hsz.trans cellsFile with
  | [c0, c1, c2, c3, c4], _ =>
    match xs, hlen with
    | [y0, y1, y2, y3, y4], _ =>
      have g0 : DataW.trod enc Try.prog w base spare held n 3 ([c0, c1, c2, c3, c4].take (Try.prog.cellsOf 3)) = some y0 := hg 0 _ rfl
      have g1 : DataW.trod enc Try.prog w base spare held n 9 ([c1, c2, c3, c4].take (Try.prog.cellsOf 9)) = some y1 := hg 1 _ rfl
      have g2 : DataW.trod enc Try.prog w base spare held n 9 ([c2, c3, c4].take (Try.prog.cellsOf 9)) = some y2 := hg 2 _ rfl
      have g3 : DataW.trod enc Try.prog w base spare held n 9 ([c3, c4].take (Try.prog.cellsOf 9)) = some y3 := hg 3 _ rfl
      have g4 : DataW.trod enc Try.prog w base spare held n 3 ([c4].take (Try.prog.cellsOf 3)) = some y4 := hg 4 _ rfl
      rw [cellsInt] at g0 g4
      rw [cellsStr] at g1 g2 g3
      obtain ⟨n0, e0, -, -⟩ := DataW.trod_int Try.underlying3 g0
      obtain ⟨s1, e1, -, -⟩ := DataW.trod_string Try.underlying9 g1
      obtain ⟨s2, e2, -, -⟩ := DataW.trod_string Try.underlying9 g2
      obtain ⟨s3, e3, -, -⟩ := DataW.trod_string Try.underlying9 g3
      obtain ⟨n4, e4, -, -⟩ := DataW.trod_int Try.underlying3 g4
      simp only [List.take_succ_cons, List.take_zero, List.cons.injEq, and_true] at e0 e1 e2 e3 e4
      subst e0 e1 e2 e3 e4
      exact ⟨⟨n0, s1.data.toList, s2.data.toList, s3.data.toList, n4⟩, rfl⟩
set_option maxRecDepth 100000 in
theorem trod_files {fuel : Nat} {c : Value} {y : DataW H × List MemPlace} (hf : DataW.trod enc Try.prog w base spare held fuel 24 [c] = some y) :
    ∃ l : List Itm, Itms w c l ∧ l.length ≤ maxLen := by
  rcases open_slice Try.underlying24 hf with ⟨h0, -⟩ | ⟨a, len, cap, m, n, D, Pl, hcs, hb, hl, hm, hmm, hx, hi⟩
  · obtain rfl : c = .slice none 0 0 := by simpa using h0
    exact ⟨[], .inl ⟨rfl, rfl⟩, by simp⟩
  · obtain rfl : c = .slice (some a) len cap := by simpa using hcs
    have hml : len ≤ m := by rw [hmm]; split <;> omega
    rw [cellsFile] at hi
    have hc : ∀ i, i < len → ∃ c : Itm, ∀ j, j < 5 → w.cell? ((a.add (i * 5)).add j) = (icells c)[j]? := by
      intro i hil
      obtain ⟨cs', h1, h2⟩ := hi i (by omega)
      obtain ⟨c, rfl⟩ := trod_file h2
      obtain ⟨_, _, hat⟩ := World.cells?_some h1
      exact ⟨c, fun j hj => by rw [hat j hj]; simp⟩
    obtain ⟨l, hl1, hl2⟩ := list_choose len hc
    refine ⟨l, .inr ⟨a, cap, by rw [hl1], by omega, fun hne => ?_⟩, by omega⟩
    obtain ⟨b, off, spot⟩ := a
    have h0 : 0 < l.length := List.length_pos_iff.2 hne
    have hspot : spot = none := by
      have h2 := hl2 0 _ (List.getElem?_eq_getElem h0) 0 (by omega)
      have h3 : w.cell? ⟨b, off, spot⟩ = some (.int .i64 l[0].lev) := by simpa [Addr.add] using h2
      simpa using World.cell?_spot h3
    subst hspot
    refine ⟨b, off, rfl, fun i c hic => ?_⟩
    have hs := hl2 i c hic
    have hj : ∀ j, j < 5 → w.cell? ⟨b, off + i * 5 + j, none⟩ = (icells c)[j]? := fun j hj => by
      have := hs j hj
      rwa [Addr.add_lit, Addr.add_lit] at this
    exact ⟨hj 0 (by omega), hj 1 (by omega), hj 2 (by omega), hj 3 (by omega), hj 4 (by omega)⟩
set_option maxRecDepth 100000 in
theorem trod_strs {fuel : Nat} {c : Value} {y : DataW H × List MemPlace} (hf : DataW.trod enc Try.prog w base spare held fuel 32 [c] = some y) :
    ∃ (l : List (List UInt8)) (A : Option Addr) (cap : Nat), c = .slice A l.length cap ∧ Strs w A cap l ∧ cap ≤ maxLen := by
  rcases open_slice Try.underlying32 hf with ⟨h0, -⟩ | ⟨a, len, cap, m, n, D, Pl, hcs, hb, hl, hm, hmm, hx, hi⟩
  · obtain rfl : c = .slice none 0 0 := by simpa using h0
    exact ⟨[], none, 0, rfl, Strs.none _, by simp⟩
  · obtain rfl : c = .slice (some a) len cap := by simpa using hcs
    have hml : len ≤ m := by rw [hmm]; split <;> omega
    rw [cellsStr] at hi
    have hc : ∀ i, i < len → ∃ t : List UInt8, w.cell? (a.add i) = some (.string (B t)) ∧ t.length ≤ maxLen := by
      intro i hil
      obtain ⟨cs', h1, h2⟩ := hi i (by omega)
      obtain ⟨s, e, -, z⟩ := DataW.trod_string Try.underlying9 h2
      subst e
      obtain ⟨_, _, hat⟩ := World.cells?_some h1
      have := hat 0 (by simp)
      refine ⟨s.data.toList, ?_, z⟩
      simpa [Addr.add] using this
    obtain ⟨l, hl1, hl2⟩ := list_choose len hc
    refine ⟨l, some a, cap, by rw [hl1], ⟨by omega, fun i t ht => ?_⟩, by omega⟩
    obtain ⟨b, off, spot⟩ := a
    have hspot : spot = none := by
      have hi2 := (List.getElem?_eq_some_iff.1 ht).1
      have h3 := (hl2 0 _ (List.getElem?_eq_getElem (by omega))).1
      have h4 : w.cell? ⟨b, off, spot⟩ = some (.string (B l[0])) := by simpa [Addr.add] using h3
      simpa using World.cell?_spot h4
    subst hspot
    obtain ⟨h1, h2⟩ := hl2 i t ht
    exact ⟨h2, b, off, rfl, by rwa [Addr.add_lit] at h1⟩
set_option maxRecDepth 100000 in
theorem trod_edit {fuel : Nat} {cs : List Value} {y : DataW H × List MemPlace} (hf : DataW.trod enc Try.prog w base spare held fuel 34 cs = some y) :
    ∃ (e : Ed) (va : Value) (Ad : Option Addr) (dc : Nat), cs = [va, .slice Ad e.del.length dc, .int .u64 (e.next : Int), .int .u64 (e.fl : Int)] ∧ Itms w va e.add ∧ Strs w Ad dc e.del ∧ e.add.length ≤ maxLen ∧ dc ≤ maxLen ∧ e.next < 18446744073709551616 ∧ e.fl < 18446744073709551616 := by
  obtain ⟨xs, n, _, hx, hsz, hlen, hg⟩ := DataW.trod_struct Try.underlying34 hf
  match cs, hsz.trans cellsEdit with
  | [c0, c1, c2, c3], _ =>
    match xs, hlen with
    | [y0, y1, y2, y3], _ =>
      have g0 : DataW.trod enc Try.prog w base spare held n 24 ([c0, c1, c2, c3].take (Try.prog.cellsOf 24)) = some y0 := hg 0 _ rfl
      have g1 : DataW.trod enc Try.prog w base spare held n 32 ([c1, c2, c3].take (Try.prog.cellsOf 32)) = some y1 := hg 1 _ rfl
      have g2 : DataW.trod enc Try.prog w base spare held n 25 ([c2, c3].take (Try.prog.cellsOf 25)) = some y2 := hg 2 _ rfl
      have g3 : DataW.trod enc Try.prog w base spare held n 25 ([c3].take (Try.prog.cellsOf 25)) = some y3 := hg 3 _ rfl
      rw [cellsFiles] at g0
      rw [cellsStrs] at g1
      rw [cellsU64] at g2 g3
      obtain ⟨n2, e2, -, z2⟩ := DataW.trod_int Try.underlying25 g2
      obtain ⟨n3, e3, -, z3⟩ := DataW.trod_int Try.underlying25 g3
      simp only [List.take_succ_cons, List.take_zero, List.cons.injEq, and_true] at e2 e3 g0 g1
      subst e2 e3
      obtain ⟨p2, q2⟩ := u64_of_wf z2
      obtain ⟨p3, q3⟩ := u64_of_wf z3
      obtain ⟨m2, rfl⟩ := Int.eq_ofNat_of_zero_le p2
      obtain ⟨m3, rfl⟩ := Int.eq_ofNat_of_zero_le p3
      obtain ⟨l, hl1, hl2⟩ := trod_files g0
      obtain ⟨d, A, cap, rfl, hd1, hd2⟩ := trod_strs g1
      have q2' : (m2 : Int) < 18446744073709551616 := q2
      have q3' : (m3 : Int) < 18446744073709551616 := q3
      exact ⟨⟨l, d, m2, m3⟩, c0, A, cap, rfl, hl1, hd1, hl2, hd2, by show m2 < _; omega, by show m3 < _; omega⟩
set_option maxRecDepth 100000 in
theorem open_eds {r : Reach} {b0 : Nat} {v : Value} {d : DataW H} {p : List MemPlace} (hv : Value.okWide Try.prog w r b0 22 v) (h : DataW.Trod enc Try.prog w base spare held 22 v d p) :
    ∃ l : List Ed, Eds w v l ∧ l.length ≤ maxLen := by
  obtain ⟨A, len, cap, rfl⟩ := okWide_slice Try.underlying22 hv
  obtain ⟨fuel, hf⟩ := h
  rcases open_slice Try.underlying22 (by simpa [Value.cells] using hf) with ⟨h0, -⟩ | ⟨a, len', cap', m, n, D, Pl, hcs, hb, hl, hm, hmm, hx, hi⟩
  · simp only [List.cons.injEq, Value.slice.injEq, and_true] at h0
    obtain ⟨rfl, rfl, rfl⟩ := h0
    exact ⟨[], .inl ⟨rfl, rfl⟩, by simp⟩
  · simp only [List.cons.injEq, Value.slice.injEq, and_true] at hcs
    obtain ⟨rfl, rfl, rfl⟩ := hcs
    have hml : len ≤ m := by rw [hmm]; split <;> omega
    rw [cellsEdit] at hi
    have hc : ∀ i, i < len → ∃ e : Ed, ∃ (va : Value) (Ad : Option Addr) (dc : Nat), (∀ j, j < 4 → w.cell? ((a.add (i * 4)).add j) = ([va, .slice Ad e.del.length dc, .int .u64 (e.next : Int), .int .u64 (e.fl : Int)] : List Value)[j]?) ∧ Itms w va e.add ∧ Strs w Ad dc e.del ∧ e.add.length ≤ maxLen ∧ dc ≤ maxLen ∧ e.next < 18446744073709551616 ∧ e.fl < 18446744073709551616 := by
      intro i hil
      obtain ⟨cs', h1, h2⟩ := hi i (by omega)
      obtain ⟨e, va, Ad, dc, rfl, q1⟩ := trod_edit h2
      obtain ⟨_, _, hat⟩ := World.cells?_some h1
      exact ⟨e, va, Ad, dc, fun j hj => by rw [hat j hj]; try simp, q1⟩
    obtain ⟨l, hl1, hl2⟩ := list_choose len hc
    refine ⟨l, .inr ⟨a, cap, by rw [hl1], by omega, fun hne => ?_⟩, by omega⟩
    obtain ⟨b, off, spot⟩ := a
    have h0 : 0 < l.length := List.length_pos_iff.2 hne
    have hspot : spot = none := by
      obtain ⟨va, Ad, dc, h2, -⟩ := hl2 0 _ (List.getElem?_eq_getElem h0)
      have h3 := h2 0 (by omega)
      have h4 : w.cell? ⟨b, off, spot⟩ = some va := by simpa [Addr.add] using h3
      simpa using World.cell?_spot h4
    subst hspot
    refine ⟨b, off, rfl, fun i e he => ?_⟩
    obtain ⟨va, Ad, dc, h2, q1⟩ := hl2 i e he
    have hj : ∀ j, j < 4 → w.cell? ⟨b, off + i * 4 + j, none⟩ = ([va, .slice Ad e.del.length dc, .int .u64 (e.next : Int), .int .u64 (e.fl : Int)] : List Value)[j]? := fun j hj => by
      have := h2 j hj
      rwa [Addr.add_lit, Addr.add_lit] at this
    exact ⟨va, Ad, dc, ⟨hj 0 (by omega), hj 1 (by omega), hj 2 (by omega), hj 3 (by omega)⟩, q1⟩
set_option maxRecDepth 100000 in
theorem open_ed {r : Reach} {b0 : Nat} {v : Value} {d : DataW H} {p : List MemPlace} (hv : Value.okWide Try.prog w r b0 34 v) (h : DataW.Trod enc Try.prog w base spare held 34 v d p) :
    ∃ (e : Ed) (va : Value) (Ad : Option Addr) (dc : Nat), v = .agg #[va, .slice Ad e.del.length dc, .int .u64 (e.next : Int), .int .u64 (e.fl : Int)] ∧ Itms w va e.add ∧ Strs w Ad dc e.del ∧ e.add.length ≤ maxLen ∧ dc ≤ maxLen ∧ e.next < 18446744073709551616 ∧ e.fl < 18446744073709551616 := by
  obtain ⟨cs, rfl, -⟩ := okWide_struct Try.underlying34 hv
  obtain ⟨fuel, hf⟩ := h
  obtain ⟨e, va, Ad, dc, h1, h2⟩ := trod_edit hf
  refine ⟨e, va, Ad, dc, ?_, h2⟩
  obtain ⟨xs⟩ := cs
  have h3 : xs = _ := h1
  rw [h3]
set_option maxRecDepth 100000 in
theorem open_file {r : Reach} {b0 : Nat} {v : Value} {d : DataW H} {p : List MemPlace} (hv : Value.okWide Try.prog w r b0 60 v) (h : DataW.Trod enc Try.prog w base spare held 60 v d p) :
    ∃ x : Itm, v = iv x := by
  obtain ⟨cs, rfl, -⟩ := okWide_struct Try.underlying60 hv
  obtain ⟨fuel, hf⟩ := h
  obtain ⟨x, h1⟩ := trod_file hf
  refine ⟨x, ?_⟩
  obtain ⟨xs⟩ := cs
  have h3 : xs = _ := h1
  rw [h3]
set_option maxRecDepth 100000 in
theorem open_i64 {r : Reach} {b0 : Nat} {v : Value} {d : DataW H} {p : List MemPlace} (hv : Value.okWide Try.prog w r b0 3 v) (h : DataW.Trod enc Try.prog w base spare held 3 v d p) :
    ∃ x : Int, v = .int .i64 x ∧ x ≤ 9223372036854775807 := by
  obtain ⟨x, rfl, -, -, wx⟩ := open_int Try.underlying3 hv h
  have h2 : IntKind.i64.min ≤ x ∧ x ≤ IntKind.i64.max := by simpa [Lit.wf] using wx
  have b : IntKind.i64.max = 9223372036854775807 := by decide
  rw [b] at h2
  exact ⟨x, rfl, h2.2⟩
set_option maxRecDepth 100000 in
theorem open_u8 {r : Reach} {b0 : Nat} {v : Value} {d : DataW H} {p : List MemPlace} (hv : Value.okWide Try.prog w r b0 5 v) (h : DataW.Trod enc Try.prog w base spare held 5 v d p) :
    ∃ n : Nat, v = .int .u8 n ∧ n < 256 := by
  obtain ⟨x, rfl, -, -, wx⟩ := open_int Try.underlying5 hv h
  have h2 : IntKind.u8.min ≤ x ∧ x ≤ IntKind.u8.max := by simpa [Lit.wf] using wx
  have a : IntKind.u8.min = 0 := by decide
  have b : IntKind.u8.max = 255 := by decide
  rw [a, b] at h2
  obtain ⟨n, rfl⟩ := Int.eq_ofNat_of_zero_le h2.1
  exact ⟨n, rfl, by omega⟩
set_option maxRecDepth 100000 in
theorem open_str {r : Reach} {b0 : Nat} {v : Value} {d : DataW H} {p : List MemPlace} (hv : Value.okWide Try.prog w r b0 9 v) (h : DataW.Trod enc Try.prog w base spare held 9 v d p) :
    ∃ l : List UInt8, v = .string (B l) ∧ l.length ≤ maxLen := by
  obtain ⟨s, rfl, -, -, hs⟩ := ChangeMaps.open_string Try.underlying9 hv h
  exact ⟨s.data.toList, rfl, hs⟩
end
section
variable {H : Type} {enc : TypeId × Value → H} {P : Program} {w : World} {base : Nat} {spare : Nat → Bool} {held : Bool}
theorem trodAll_five {t t' t'' t3 t4 : TypeId} {args : Array Value} {ds : List (DataW H)} {ps : List MemPlace} (h : DataW.TrodAll enc P w base spare held [t, t', t'', t3, t4] args.toList ds ps) :
    ∃ v v' v'' v3 v4 d d' d'' d3 d4 p p' p'' p3 p4, args = #[v, v', v'', v3, v4] ∧ ds = [d, d', d'', d3, d4] ∧ ps = p ++ (p' ++ (p'' ++ (p3 ++ p4))) ∧ DataW.Trod enc P w base spare held t v d p ∧ DataW.Trod enc P w base spare held t' v' d' p' ∧ DataW.Trod enc P w base spare held t'' v'' d'' p'' ∧ DataW.Trod enc P w base spare held t3 v3 d3 p3 ∧ DataW.Trod enc P w base spare held t4 v4 d4 p4 := by
  obtain ⟨v, vs, d, ds', p, q, hargs, rfl, rfl, hd, hrest⟩ := trodAll_cons h
  obtain ⟨v', vs', d', ds'', p', q', rfl, rfl, rfl, hd', hrest'⟩ := trodAll_cons hrest
  obtain ⟨v'', vs'', d'', ds''', p'', q'', rfl, rfl, rfl, hd'', hrest''⟩ := trodAll_cons hrest'
  obtain ⟨v3, vs3, d3, ds3, p3, q3, rfl, rfl, rfl, hd3, hrest3⟩ := trodAll_cons hrest''
  obtain ⟨v4, vs4, d4, ds4, p4, q4, rfl, rfl, rfl, hd4, hrest4⟩ := trodAll_cons hrest3
  obtain ⟨rfl, rfl, rfl⟩ := trodAll_nil hrest4
  exact ⟨v, v', v'', v3, v4, d, d', d'', d3, d4, p, p', p'', p3, p4, by cases args; simp_all, rfl, by simp, hd, hd', hd'', hd3, hd4⟩
theorem trodAll_mk5 {t t' t'' t3 t4 : TypeId} {v v' v'' v3 v4 : Value} {d d' d'' d3 d4 : DataW H} {p p' p'' p3 p4 : List MemPlace} (h : DataW.Trod enc P w base spare held t v d p) (h' : DataW.Trod enc P w base spare held t' v' d' p')
    (h'' : DataW.Trod enc P w base spare held t'' v'' d'' p'') (h3 : DataW.Trod enc P w base spare held t3 v3 d3 p3) (h4 : DataW.Trod enc P w base spare held t4 v4 d4 p4) : DataW.TrodAll enc P w base spare held [t, t', t'', t3, t4] [v, v', v'', v3, v4] [d, d', d'', d3, d4] (p ++ (p' ++ (p'' ++ (p3 ++ p4)))) := ⟨p, p' ++ (p'' ++ (p3 ++ p4)), h, trodAll_mk4 h' h'' h3 h4, rfl⟩
end
section
variable {H : Type} {enc : TypeId × Value → H} {P : Program} {w : World} {base : Nat} {spare : Nat → Bool} {held : Bool}
theorem trodAll_four' {t t' t'' t3 : TypeId} {args : Array Value} {ds : List (DataW H)} {ps : List MemPlace} (h : DataW.TrodAll enc P w base spare held [t, t', t'', t3] args.toList ds ps) :
    ∃ v v' v'' v3 d d' d'' d3 p p' p'' p3, args = #[v, v', v'', v3] ∧ ds = [d, d', d'', d3] ∧ ps = p ++ (p' ++ (p'' ++ p3)) ∧ DataW.Trod enc P w base spare held t v d p ∧ DataW.Trod enc P w base spare held t' v' d' p' ∧ DataW.Trod enc P w base spare held t'' v'' d'' p'' ∧ DataW.Trod enc P w base spare held t3 v3 d3 p3 := by
  obtain ⟨v, vs, d, ds', p, q, hargs, rfl, rfl, hd, hrest⟩ := trodAll_cons h
  obtain ⟨v', vs', d', ds2, p', q', rfl, rfl, rfl, hd', hrest'⟩ := trodAll_cons hrest
  obtain ⟨v'', vs'', d'', ds3, p'', q'', rfl, rfl, rfl, hd'', hrest''⟩ := trodAll_cons hrest'
  obtain ⟨v3, vs3, d3, ds4, p3, q3, rfl, rfl, rfl, hd3, hrest3⟩ := trodAll_cons hrest''
  obtain ⟨rfl, rfl, rfl⟩ := trodAll_nil hrest3
  exact ⟨v, v', v'', v3, d, d', d'', d3, p, p', p'', p3, by cases args; simp_all, rfl, by simp, hd, hd', hd'', hd3⟩
end
end Go.Proofs.Yteglddggjkibcaa
