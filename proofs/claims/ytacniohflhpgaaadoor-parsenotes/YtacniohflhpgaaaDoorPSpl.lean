/-
  strings.Split and strconv.ParseUint in plain words; the closures of looksOf. Conditions: lengths as written; the program's variables hold what they hold (Env).
-/
import Derived.Test.YtacniohflhpgaaaDoorPWrd
import Derived.Lib.AtoiErrMem
import Derived.StillTailTactics
namespace Go.Proofs.YtacniohflhpgaaaDoor
open Go.RowKit

theorem ext_B (l : List UInt8) (a b : Nat) : (B l).extract a b = B ((l.drop a).take (b - a)) := by
  apply ByteArray.ext
  simp [B, ByteArray.data_extract]
theorem ext_take (l : List UInt8) (n : Nat) : (B l).extract 0 n = B (l.take n) := by rw [ext_B]; simp
theorem ext_drop (l : List UInt8) (n m : Nat) (h : l.length ≤ m) : (B l).extract n m = B (l.drop n) := by
  rw [ext_B, List.take_of_length_le (by simp; omega)]
theorem ret_str {a b : ByteArray} (h : a = b) : Ending.returned (.string a) = .returned (.string b) := by rw [h]
/-- Only block g has turned; nothing is new. -/
def But (g : Nat) (w w' : World) : Prop := w.grownBy w' (some g)
theorem But.re (g : Nat) (w : World) : But g w w := World.grownBy.refl w _
theorem But.st {g : Nat} {w w' : World} (h : But g w w') (o : Nat) (u : Value) : But g w (w'.setCell ⟨g, o, none⟩ u) :=
  ⟨h.os, h.tape, h.output, by simpa [World.setCell] using h.size, fun i hi hne => (Below.heap_setCell w' ⟨g, o, none⟩ u i (by rintro rfl; exact hne rfl)).trans (h.block i hi hne)⟩
theorem But.tr {g : Nat} {w w1 w2 : World} (h : But g w w1) (k : But g w1 w2) : But g w w2 :=
  ⟨k.os.trans h.os, k.tape.trans h.tape, k.output.trans h.output, Nat.le_trans h.size k.size, fun i hi hne => (k.block i (Nat.lt_of_lt_of_le hi h.size) hne).trans (h.block i hi hne)⟩
theorem Bk.but {w w' : World} {g k : Nat} {t : TypeId} {cs : Array Value} (h : Bk w g t cs) (hb : But k w w') (hne : g ≠ k) : Bk w' g t cs :=
  (hb.block g h.lt (fun e => hne (by injection e))).trans h
theorem Old.but {w w1 w2 : World} {g : Nat} (h : Old w w1) (hb : But g w1 w2) (hg : w.heap.size ≤ g) : Old w w2 :=
  ⟨hb.os.trans h.os, hb.tape.trans h.tape, hb.output.trans h.output, Nat.le_trans h.size hb.size, fun i hi => (hb.block i (Nat.lt_of_lt_of_le hi h.size) (fun e => by injection e with e; omega)).trans (h.block i hi)⟩
theorem But.ol {g : Nat} {w w1 w2 : World} (h : But g w w1) (k : Old w1 w2) : But g w w2 :=
  ⟨k.os.trans h.os, k.tape.trans h.tape, k.output.trans h.output, Nat.le_trans h.size k.size, fun i hi hne => (k.block i (Nat.lt_of_lt_of_le hi h.size)).trans (h.block i hi hne)⟩

/-- The name of the table of powers, as the rows have it. -/
abbrev powName : String := Rows.parsePrintsRow.named.getD 5 ""
/-- What the program's variables hold: a number, two errors, the table of powers. -/
structure Env (w : World) : Prop where
  mx : ∃ m : Int, w.cell? ⟨1, 0, none⟩ = some (.int .i64 m)
  es : ∃ tp p, w.cell? ⟨4, 0, none⟩ = some (.iface tp p)
  er : ∃ tp p, w.cell? ⟨5, 0, none⟩ = some (.iface tp p)
  tab : Lib.TabIs Tryd.prog w powName .u64 Lib.pow10Tab
theorem var_old {w w' : World} {n : String} {cs : Array Value} (h : w.var? Tryd.prog n = some cs) (o : Old w w') : w'.var? Tryd.prog n = some cs := by
  unfold World.var? at *
  rw [Option.bind_eq_some_iff] at *
  obtain ⟨g, hg, h⟩ := h
  refine ⟨g, hg, ?_⟩
  have hlt : g < w.heap.size := by
    rcases Nat.lt_or_ge g w.heap.size with h1 | h1
    · exact h1
    · rw [Array.getElem?_eq_none h1] at h; cases h
  rw [o.block g hlt]
  exact h
theorem Env.old {w w' : World} (h : Env w) (o : Old w w') : Env w' := by
  obtain ⟨⟨m, hm⟩, ⟨t1, p1, h1⟩, ⟨t2, p2, h2⟩, h3⟩ := h
  exact ⟨⟨m, cell_old hm o⟩, ⟨t1, p1, cell_old h1 o⟩, ⟨t2, p2, cell_old h2 o⟩, var_old h3 o⟩

/-- Texts, as memory has them. -/
def tx (l : List (List UInt8)) : Array Value := (l.map (fun p => Value.string (B p))).toArray
theorem tx_at (l : List (List UInt8)) (i : Nat) (h : i < l.length) : (tx l)[i]? = some (.string (B l[i])) := by
  simp [tx, h]
theorem B_to (s : ByteArray) : B s.data.toList = s := rfl
theorem split_any (c : UInt8) (l : List UInt8) (w : World) (hv : Env w) (hl : l.length ≤ 4000000000) :
    Calls Tryd.prog 18 #[.string (B l), .string (B [c])] w fun e w' => e = .returned (.slice (some ⟨w.heap.size, 0, none⟩) (spl c l).length (spl c l).length) ∧ w' = w.alloc (.cells (tx (spl c l)) 9) := by
  obtain ⟨m, hm⟩ := hv.mx
  have hd : (Lib.splitB (B [c]) 0 (Lib.countB (B l) (B [c])) (B l)).map (·.data.toList) = spl c l := by
    rw [Lib.splitB_data]
    exact split_spl c l
  have hn := Lib.splitB_all (B [c]) (by simp [ByteArray.size]) 0 _ (B l) rfl
  have hlen : (spl c l).length = Lib.countB (B l) (B [c]) + 1 := by rw [← hd, List.length_map, hn]
  refine (Tryd.strings_Split (B l) (B [c]) m w (by simp only [ByteArray.size, List.size_toArray]; omega) hm (by simp [ByteArray.size])).mono ?_
  rintro e w' ⟨rfl, rfl⟩
  refine ⟨by rw [hlen], ?_⟩
  have : ((Lib.splitB (B [c]) 0 (Lib.countB (B l) (B [c])) (B l)).map Value.string).toArray = tx (spl c l) := by
    rw [← hd, tx, List.map_map]
    rfl
  rw [this]

/-- The number that ParseUint tells, and whether it tells one. -/
def puN (l : List UInt8) : Nat := match Lib.parseUintB 64 l with | .ok u => u | .range => 18446744073709551615 | _ => 0
def puB (l : List UInt8) : Bool := match Lib.parseUintB 64 l with | .ok _ => true | _ => false
theorem uint_any (l : List UInt8) (w : World) (hv : Env w) (hl : l.length ≤ 4000000000) :
    Calls Tryd.prog 47 #[.string (B l), .int .i64 10, .int .i64 64] w fun e w' => ∃ er, e = .returned (.tuple #[.int .u64 (puN l : Nat), er]) ∧ (er = if puB l = true then .nilIface else er) ∧ (puB l = false → ∃ t p, er = .iface t p) ∧ Old w w' := by
  have hs : (B l).size = l.length := by simp [ByteArray.size]
  unfold puN puB
  cases h : Lib.parseUintB 64 l
  · rename_i u
    refine (Tryd.strconv_ParseUint_10_at64_ok (B l) (by omega) u h w).mono ?_
    rintro e w' ⟨rfl, hw⟩
    refine ⟨_, rfl, by simp, by simp, ?_⟩
    rcases hw with rfl | rfl
    · exact Old.re _
    · exact Lib.bytesWorld_below _ _ _
  · obtain ⟨tp, p, hc⟩ := hv.es
    refine (Tryd.strconv_ParseUint_10_at64_syntax (B l) (by omega) h _ w hc (.inr ⟨_, _, rfl⟩)).mono ?_
    rintro e w' ⟨N, rfl, -, -, hb⟩
    exact ⟨_, rfl, by simp, fun _ => ⟨_, _, rfl⟩, hb⟩
  · obtain ⟨tp, p, hc⟩ := hv.er
    refine (Tryd.strconv_ParseUint_10_at64_range (B l) (by omega) h _ w hc (.inr ⟨_, _, rfl⟩)).mono ?_
    rintro e w' ⟨N, rfl, -, -, hb⟩
    exact ⟨_, rfl, by simp, fun _ => ⟨_, _, rfl⟩, hb⟩
theorem digO_pu (l : List UInt8) : digO l = if puB l = true ∧ l.length ≤ 18 then some (puN l) else none := by
  by_cases h : l.length ≤ 18
  · rw [digO_parse l h]
    unfold puN puB
    cases Lib.parseUintB 64 l <;> simp [h]
  · rw [digO_long l (by omega), if_neg (by omega)]
end Go.Proofs.YtacniohflhpgaaaDoor
