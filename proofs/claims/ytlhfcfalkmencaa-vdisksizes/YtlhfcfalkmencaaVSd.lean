/-
  A law's disk, and its calls. Conditions: the disk lies in memory; lengths as written.
-/
import Derived.Test.YtlhfcfalkmencaaVRen
namespace Go.Proofs.Ytlhfcfalkmencaa
open Go.RowKit Go.Maps

/-- A disk that was made since w. -/
structure Sd (w w1 : World) (k : Dsk) : Prop where
  dk : Dk w1 k
  old : Old w w1
  new : ∀ i ∈ own k, w.heap.size ≤ i
theorem Sd.step {w w1 w2 : World} {k k' : Dsk} (h : Sd w w1 k) (h2 : Dk w2 k') (hk : Kept k k' w1 w2) : Sd w w2 k' := by
  obtain ⟨a, b⟩ := hk.over h.old h.new
  exact ⟨h2, a, b⟩
theorem Sd.go {w w1 w2 : World} {k : Dsk} (h : Sd w w1 k) (o : Old w1 w2) : Sd w w2 k := ⟨h.dk.old o, h.old.tr o, h.new⟩

section
variable {w w1 : World} {d m c : Nat} {L : List Fl}
theorem create_sd (h : Sd w w1 ⟨d, m, c, L, true, none⟩) (s : List UInt8) (hb : bad s = false) (hf : fnd L s = none) (hl : L.length < 200) :
    Calls Try.prog 10 #[ptr d, .string (B s)] w1 fun e w' => e = .returned (.int .i64 0) ∧ ∃ b, Sd w w' ⟨d, m, c, put ⟨s, b, [], 0⟩ L, true, none⟩ ∧ Kept ⟨d, m, c, L, true, none⟩ ⟨d, m, c, put ⟨s, b, [], 0⟩ L, true, none⟩ w1 w' :=
  (create_ok ⟨d, m, c, L, true, none⟩ s w1 h.dk rfl rfl hb hf hl).mono fun _ _ ⟨e1, b, h1, h2⟩ => ⟨e1, b, h.step h1 h2, h2⟩
theorem append_sd (h : Sd w w1 ⟨d, m, c, L, true, none⟩) (s t : List UInt8) (hb : bad s = false) {f : Fl} (hf : fnd L s = some f) (hl : total L + t.length ≤ c) :
    Calls Try.prog 11 #[ptr d, .string (B s), .string (B t)] w1 fun e w' => e = .returned (.int .i64 0) ∧ Sd w w' ⟨d, m, c, setF f.blk (f.s ++ t) f.n L, true, none⟩ :=
  (append_ok ⟨d, m, c, L, true, none⟩ s t w1 h.dk rfl rfl hb f hf hl).mono fun _ _ ⟨e1, h1, h2⟩ => ⟨e1, h.step h1 h2⟩
theorem sync_sd (h : Sd w w1 ⟨d, m, c, L, true, none⟩) (s : List UInt8) (hb : bad s = false) {f : Fl} (hf : fnd L s = some f) :
    Calls Try.prog 12 #[ptr d, .string (B s)] w1 fun e w' => e = .returned (.int .i64 0) ∧ Sd w w' ⟨d, m, c, setF f.blk f.s f.s.length L, true, none⟩ :=
  (sync_ok ⟨d, m, c, L, true, none⟩ s w1 h.dk rfl rfl hb f hf).mono fun _ _ ⟨e1, h1, h2⟩ => ⟨e1, h.step h1 h2⟩
theorem crash_sd {u : Bool} {z : Option Fz} (h : Sd w w1 ⟨d, m, c, L, u, z⟩) (keep : Int) :
    Calls Try.prog 13 #[ptr d, .int .i64 keep] w1 fun e w' => e = .returned (.tuple #[]) ∧ Sd w w' ⟨d, m, c, L.map (crF keep), false, z⟩ :=
  (crash_any ⟨d, m, c, L, u, z⟩ keep w1 h.dk).mono fun _ _ ⟨e1, h1, h2⟩ => ⟨e1, h.step h1 h2⟩
theorem on_sd {u : Bool} {z : Option Fz} (h : Sd w w1 ⟨d, m, c, L, u, z⟩) :
    Calls Try.prog 14 #[ptr d] w1 fun e w' => e = .returned (.tuple #[]) ∧ Sd w w' ⟨d, m, c, L, true, none⟩ :=
  (on_any ⟨d, m, c, L, u, z⟩ w1 h.dk).mono fun _ _ ⟨e1, h1, h2⟩ => ⟨e1, h.step h1 h2⟩
theorem read_sd {z : Option Fz} (h : Sd w w1 ⟨d, m, c, L, true, z⟩) (s : List UInt8) (hb : bad s = false) {f : Fl} (hf : fnd L s = some f) :
    Calls Try.prog 15 #[ptr d, .string (B s)] w1 fun e w' => e = .returned (.tuple #[.string (B f.s), .int .i64 0]) ∧ Sd w w' ⟨d, m, c, L, true, z⟩ ∧ Old w1 w' :=
  (read_ok ⟨d, m, c, L, true, z⟩ s (by have := bad_no hb; omega) w1 h.dk f rfl hb hf).mono fun _ _ ⟨e1, h1⟩ => ⟨e1, h.go h1, h1⟩
theorem size_sd {u : Bool} {z : Option Fz} (h : Sd w w1 ⟨d, m, c, L, u, z⟩) :
    Calls Try.prog 19 #[ptr d] w1 fun e w' => e = .returned (.int .i64 (total L : Nat)) ∧ Sd w w' ⟨d, m, c, L, u, z⟩ ∧ Old w1 w' :=
  (size_any ⟨d, m, c, L, u, z⟩ w1 h.dk).mono fun _ _ ⟨e1, h1⟩ => ⟨e1, h.go h1, h1⟩
theorem synced_sd {u : Bool} {z : Option Fz} (h : Sd w w1 ⟨d, m, c, L, u, z⟩) (s : List UInt8) (hs : s.length ≤ 100000) {f : Fl} (hf : fnd L s = some f) :
    Calls Try.prog 16 #[ptr d, .string (B s)] w1 fun e w' => e = .returned (.int .i64 (f.n : Nat)) ∧ w1 = w' :=
  (synced_any ⟨d, m, c, L, u, z⟩ s hs w1 h.dk).mono fun _ _ ⟨e1, h1⟩ => ⟨by rw [e1]; unfold syn; rw [hf], h1⟩
end
theorem new_sd (c : Nat) (hc : c ≤ 1000000000000) (w w0 : World) (o : Old w w0) :
    Calls Try.prog 9 #[.int .i64 (c : Int)] w0 fun e w' => ∃ d m, e = .returned (ptr d) ∧ Sd w w' ⟨d, m, c, [], true, none⟩ :=
  (new_any c hc w0).mono fun e w' ⟨k, e1, h1, h2, h3, h4, h5, h6, h7⟩ => by
    obtain ⟨d, m, c', L, u, z⟩ := k
    simp only at h4 h5 h6 h7
    subst h4 h5 h6 h7
    exact ⟨d, m, e1, h1, o.tr h2, fun i hi => Nat.le_trans o.size (h3 i hi)⟩

abbrev one (s : List UInt8) (b : Nat) (t : List UInt8) (n : Nat) : List Fl := [⟨s, b, t, n⟩]
theorem fnd_one (s : List UInt8) (b : Nat) (t : List UInt8) (n : Nat) : fnd (one s b t n) s = some ⟨s, b, t, n⟩ := by simp [fnd]
theorem put_nil (s : List UInt8) (b : Nat) : put ⟨s, b, [], 0⟩ [] = one s b [] 0 := rfl
theorem set_one (s : List UInt8) (b : Nat) (t u : List UInt8) (n i : Nat) : setF b u i (one s b t n) = one s b u i := by simp [setF, upd]
theorem total_one (s : List UInt8) (b : Nat) (t : List UInt8) (n : Nat) : total (one s b t n) = t.length := by simp [total]
end Go.Proofs.Ytlhfcfalkmencaa
