/-
  Acts that came in; calls of a law's disk, whatever they answer. Conditions: the disk lies in memory; lengths as written.
-/
import Derived.Test.YtlhfcfalkmencaaVSd2
import Derived.Deep.DeepCutAuto
namespace Go.Proofs.Ytlhfcfalkmencaa
open Go.ChangeShapes Go.WideShapes Go.ChangeAt Go.RowKit Go.Joins Go.Deep Go.Maps

/-- An act: the plain thing. -/
structure Ac where
  kind : Int
  n : Int
  keep : Int
  a : List UInt8
  b : List UInt8
  s : List UInt8
abbrev acells (c : Ac) : Array Value := #[.int .i64 c.kind, .int .i64 c.n, .int .i64 c.keep, .string (B c.a), .string (B c.b), .string (B c.s)]
/-- Six cells of an act. -/
structure ActAt (w : World) (b off : Nat) (c : Ac) : Prop where
  c0 : w.cell? ⟨b, off, none⟩ = some (.int .i64 c.kind)
  c1 : w.cell? ⟨b, off + 1, none⟩ = some (.int .i64 c.n)
  c2 : w.cell? ⟨b, off + 2, none⟩ = some (.int .i64 c.keep)
  c3 : w.cell? ⟨b, off + 3, none⟩ = some (.string (B c.a))
  c4 : w.cell? ⟨b, off + 4, none⟩ = some (.string (B c.b))
  c5 : w.cell? ⟨b, off + 5, none⟩ = some (.string (B c.s))
theorem ActAt.old {w W : World} {b off : Nat} {c : Ac} (h : ActAt w b off c) (o : Old w W) : ActAt W b off c :=
  ⟨cell_old h.c0 o, cell_old h.c1 o, cell_old h.c2 o, cell_old h.c3 o, cell_old h.c4 o, cell_old h.c5 o⟩
/-- A slice of acts. -/
def Acts (w : World) (A : Option Addr) (cap : Nat) (l : List Ac) : Prop :=
  l.length ≤ cap ∧ ∀ (i : Nat) (c : Ac), l[i]? = some c → (c.a.length ≤ maxLen ∧ c.b.length ≤ maxLen ∧ c.s.length ≤ maxLen) ∧ ∃ b off, A = some ⟨b, off, none⟩ ∧ ActAt w b (off + i * 6) c
theorem Acts.at_ {w : World} {A : Option Addr} {cap : Nat} {l : List Ac} (h : Acts w A cap l) (i : Nat) (hi : i < l.length) : (l[i].a.length ≤ maxLen ∧ l[i].b.length ≤ maxLen ∧ l[i].s.length ≤ maxLen) ∧ ∃ b off, A = some ⟨b, off, none⟩ ∧ ActAt w b (off + i * 6) l[i] := h.2 i _ (List.getElem?_eq_getElem hi)

section
variable {H : Type} {enc : TypeId × Value → H} {w : World} {base : Nat} {spare : Nat → Bool} {held : Bool}
theorem cellsAct : Try.prog.cellsOf 45 = 6 := by kernel_rfl
theorem trod_act {fuel : Nat} {cs : List Value} {y : DataW H × List MemPlace} (hf : DataW.trod enc Try.prog w base spare held fuel 45 cs = some y) : ∃ c : Ac, cs = (acells c).toList ∧ c.a.length ≤ maxLen ∧ c.b.length ≤ maxLen ∧ c.s.length ≤ maxLen := by
  obtain ⟨xs, n, _, hx, hsz, hlen, hg⟩ := DataW.trod_struct Try.underlying45 hf
  match cs, hsz.trans cellsAct with
  | [c0, c1, c2, c3, c4, c5], _ =>
    match xs, hlen with
    | [y0, y1, y2, y3, y4, y5], _ =>
      have k9 : Try.prog.cellsOf 9 = 1 := by kernel_rfl
      have k3 : Try.prog.cellsOf 3 = 1 := by kernel_rfl
      have g0 : DataW.trod enc Try.prog w base spare held n 3 ([c0, c1, c2, c3, c4, c5].take (Try.prog.cellsOf 3)) = some y0 := hg 0 _ rfl
      have g1 : DataW.trod enc Try.prog w base spare held n 3 ([c1, c2, c3, c4, c5].take (Try.prog.cellsOf 3)) = some y1 := hg 1 _ rfl
      have g2 : DataW.trod enc Try.prog w base spare held n 3 ([c2, c3, c4, c5].take (Try.prog.cellsOf 3)) = some y2 := hg 2 _ rfl
      have g3 : DataW.trod enc Try.prog w base spare held n 9 ([c3, c4, c5].take (Try.prog.cellsOf 9)) = some y3 := hg 3 _ rfl
      have g4 : DataW.trod enc Try.prog w base spare held n 9 ([c4, c5].take (Try.prog.cellsOf 9)) = some y4 := hg 4 _ rfl
      have g5 : DataW.trod enc Try.prog w base spare held n 9 ([c5].take (Try.prog.cellsOf 9)) = some y5 := hg 5 _ rfl
      rw [k3] at g0 g1 g2
      rw [k9] at g3 g4 g5
      obtain ⟨n0, e0, -, -⟩ := DataW.trod_int Try.underlying3 g0
      obtain ⟨n1, e1, -, -⟩ := DataW.trod_int Try.underlying3 g1
      obtain ⟨n2, e2, -, -⟩ := DataW.trod_int Try.underlying3 g2
      obtain ⟨s3, e3, -, z3⟩ := DataW.trod_string Try.underlying9 g3
      obtain ⟨s4, e4, -, z4⟩ := DataW.trod_string Try.underlying9 g4
      obtain ⟨s5, e5, -, z5⟩ := DataW.trod_string Try.underlying9 g5
      simp only [List.take_succ_cons, List.take_zero, List.cons.injEq, and_true] at e0 e1 e2 e3 e4 e5
      subst e0 e1 e2 e3 e4 e5
      exact ⟨⟨n0, n1, n2, s3.data.toList, s4.data.toList, s5.data.toList⟩, rfl, z3, z4, z5⟩
theorem open_acts {r : Reach} {b0 : Nat} {v : Value} {d : DataW H} {p : List MemPlace} (hv : Value.okWide Try.prog w r b0 43 v) (h : DataW.Trod enc Try.prog w base spare held 43 v d p) (_ : ∀ x ∈ p, x.block < w.heap.size) :
    ∃ (l : List Ac) (A : Option Addr) (cap : Nat), v = .slice A l.length cap ∧ Acts w A cap l := by
  obtain ⟨A, len, cap, rfl⟩ := okWide_slice Try.underlying43 hv
  obtain ⟨fuel, hf⟩ := h
  rcases open_slice Try.underlying43 (by simpa [Value.cells] using hf) with ⟨h0, -⟩ | ⟨a, len', cap', m, n, D, Pl, hcs, hb, hl, hm, hmm, hx, hi⟩
  · simp only [List.cons.injEq, Value.slice.injEq, and_true] at h0
    obtain ⟨rfl, rfl, rfl⟩ := h0
    exact ⟨[], none, 0, rfl, Nat.le_refl _, fun i t ht => by simp at ht⟩
  · simp only [List.cons.injEq, Value.slice.injEq, and_true] at hcs
    obtain ⟨rfl, rfl, rfl⟩ := hcs
    have hml : len ≤ m := by rw [hmm]; split <;> omega
    rw [cellsAct] at hi
    have hc : ∀ i, i < len → ∃ c : Ac, (c.a.length ≤ maxLen ∧ c.b.length ≤ maxLen ∧ c.s.length ≤ maxLen) ∧ ∀ j, j < 6 → w.cell? ((a.add (i * 6)).add j) = (acells c)[j]? := by
      intro i hil
      obtain ⟨cs', h1, h2⟩ := hi i (by omega)
      obtain ⟨c, rfl, hok⟩ := trod_act h2
      obtain ⟨_, _, hat⟩ := World.cells?_some h1
      exact ⟨c, hok, fun j hj => by rw [hat j hj]; simp⟩
    rcases Nat.eq_zero_or_pos len with h0 | h0
    · subst h0
      exact ⟨[], some a, cap, rfl, Nat.zero_le _, fun i t ht => by simp at ht⟩
    · obtain ⟨b, off, spot⟩ := a
      have hspot : spot = none := by
        obtain ⟨c, -, h1⟩ := hc 0 h0
        have h2 := h1 0 (by omega)
        have h3 : w.cell? ⟨b, off, spot⟩ = some (.int .i64 c.kind) := by simpa [Addr.add] using h2
        simpa using World.cell?_spot h3
      subst hspot
      classical
      refine ⟨(List.range len).map fun i => if hlt : i < len then Classical.choose (hc i hlt) else ⟨0, 0, 0, [], [], []⟩, some ⟨b, off, none⟩, cap, by simp, by simpa using hl, ?_⟩
      intro i c hic
      rw [List.getElem?_map] at hic
      rcases Nat.lt_or_ge i len with hlt | hge
      · rw [List.getElem?_range hlt] at hic
        simp only [Option.map_some, dif_pos hlt, Option.some.injEq] at hic
        have hs := Classical.choose_spec (hc i hlt)
        rw [hic] at hs
        have hj : ∀ j, j < 6 → w.cell? ⟨b, off + i * 6 + j, none⟩ = (acells c)[j]? := fun j hj => by
          have := hs.2 j hj
          rwa [Addr.add_lit, Addr.add_lit] at this
        exact ⟨hs.1, b, off, rfl, ⟨hj 0 (by omega), hj 1 (by omega), hj 2 (by omega), hj 3 (by omega), hj 4 (by omega), hj 5 (by omega)⟩⟩
      · rw [List.getElem?_eq_none (by simpa using hge)] at hic
        cases hic
end

section
variable {w w1 : World} {d m c : Nat} {L : List Fl}
theorem create_all (h : Sd w w1 ⟨d, m, c, L, true, none⟩) (s : List UInt8) (hs : s.length ≤ 100000) :
    Calls Try.prog 10 #[ptr d, .string (B s)] w1 fun e w' => ∃ x M, e = .returned (.int .i64 x) ∧ Sd w w' ⟨d, m, c, M, true, none⟩ := by
  cases hb : bad s with
  | true => exact (createB_sd h s hs hb).mono fun _ _ ⟨e1, h1, _⟩ => ⟨_, _, e1, h1⟩
  | false =>
    cases hf : fnd L s with
    | some f => exact (createT_sd h s hb hf).mono fun _ _ ⟨e1, h1, _⟩ => ⟨_, _, e1, h1⟩
    | none =>
      by_cases hl : L.length < 200
      · exact (create_sd h s hb hf hl).mono fun _ _ ⟨e1, b, h1, _⟩ => ⟨_, _, e1, h1⟩
      · exact (createF_sd h s hb hf (by omega)).mono fun _ _ ⟨e1, h1, _⟩ => ⟨_, _, e1, h1⟩
theorem sync_all (h : Sd w w1 ⟨d, m, c, L, true, none⟩) (s : List UInt8) (hs : s.length ≤ 100000) :
    Calls Try.prog 12 #[ptr d, .string (B s)] w1 fun e w' => ∃ x M, e = .returned (.int .i64 x) ∧ Sd w w' ⟨d, m, c, M, true, none⟩ := by
  by_cases hE : fndE ⟨d, m, c, L, true, none⟩ s = 0
  · obtain ⟨f, hf, -, -, hb⟩ := fndE_ok hE
    exact (sync_sd h s hb hf).mono fun _ _ ⟨e1, h1⟩ => ⟨_, _, e1, h1⟩
  · exact (sync_no _ s hs w1 h.dk hE).mono fun _ _ ⟨e1, h1⟩ => ⟨_, _, e1, h.go h1⟩
theorem delete_all (h : Sd w w1 ⟨d, m, c, L, true, none⟩) (s : List UInt8) (hs : s.length ≤ 100000) :
    Calls Try.prog 21 #[ptr d, .string (B s)] w1 fun e w' => ∃ x M, e = .returned (.int .i64 x) ∧ Sd w w' ⟨d, m, c, M, true, none⟩ := by
  by_cases hE : fndE ⟨d, m, c, L, true, none⟩ s = 0
  · obtain ⟨f, hf, -, -, hb⟩ := fndE_ok hE
    exact (delete_ok ⟨d, m, c, L, true, none⟩ s w1 h.dk rfl rfl hb f hf).mono fun _ _ ⟨e1, h1, h2⟩ => ⟨_, _, e1, h.step h1 h2⟩
  · exact (delete_no _ s hs w1 h.dk hE).mono fun _ _ ⟨e1, h1⟩ => ⟨_, _, e1, h.go h1⟩
theorem rename_all (h : Sd w w1 ⟨d, m, c, L, true, none⟩) (s t : List UInt8) (hs : s.length ≤ 100000) (ht : t.length ≤ 100000) :
    Calls Try.prog 18 #[ptr d, .string (B s), .string (B t)] w1 fun e w' => ∃ x M, e = .returned (.int .i64 x) ∧ Sd w w' ⟨d, m, c, M, true, none⟩ := by
  by_cases hE : renE ⟨d, m, c, L, true, none⟩ s t = 0
  · obtain ⟨f, hf, -, hb, hbt⟩ := renE_ok hE
    exact (rename_ok ⟨d, m, c, L, true, none⟩ s t w1 h.dk rfl rfl hb hbt f hf).mono fun _ _ ⟨e1, h1, h2⟩ => ⟨_, _, e1, h.step h1 h2⟩
  · exact (rename_no _ s t hs ht w1 h.dk hE).mono fun _ _ ⟨e1, h1⟩ => ⟨_, _, e1, h.go h1⟩
end
end Go.Proofs.Ytlhfcfalkmencaa
