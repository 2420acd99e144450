/-
  A disk in memory: its struct, the map of its files, each file's cells, the gate. What stays while it is changed. No conditions but those written.
-/
import Derived.Test.YtilimfbjkgeciaaDoorRows
import Derived.Test.YtilimfbjkgeciaaDoorVMth
import Derived.WalkKit
import Derived.WalkSpells
import Derived.WalkLawsBesides
import Derived.Lib.Hide
import Derived.Deep.RegionHeld3
import Derived.Deep.QuietTactic
import Derived.BigQuiet
import Derived.Deep.Light
import Derived.Maps.RangeWalk
import Derived.Shelf.Abstract
import Derived.Laws.EntriesVeiled
namespace Go.Proofs.YtilimfbjkgeciaaDoor
set_option maxRecDepth 100000
open Go.RowKit Go.Maps

/-- A text as a list of bytes. -/
abbrev B (l : List UInt8) : ByteArray := ⟨l.toArray⟩
/-- Below everywhere: old memory stays. -/
abbrev Old (w w' : World) : Prop := Below w.heap.size w w'
theorem old_alloc (w : World) (o : Obj) : Old w (w.alloc o) := (Below.refl _ _).alloc (Nat.le_refl _) _
theorem Old.al {w w1 : World} (h : Old w w1) (o : Obj) : Old w (w1.alloc o) := h.alloc h.size _
theorem Old.dr {w w1 : World} (h : Old w w1) : Old w w1.drew := h.drew
theorem Old.dn {w w1 : World} (h : Old w w1) (n : Nat) : Old w (w1.drewN n) := ⟨h.os, h.tape, h.output, h.size, h.block⟩
theorem Old.tr {w w1 w2 : World} (h : Old w w1) (k : Old w1 w2) : Old w w2 := h.trans (k.mono h.size)
theorem Old.st {w w1 : World} (h : Old w w1) {p : Addr} (hp : w.heap.size ≤ p.block) (u : Value) : Old w (w1.setCell p u) := h.setCell hp u
theorem Old.re (w : World) : Old w w := Below.refl _ _
theorem ret_bool {a b : Bool} (h : a = b) : Ending.returned (.bool a) = .returned (.bool b) := by rw [h]
theorem ret_int {k : IntKind} {a b : Int} (h : a = b) : Ending.returned (.int k a) = .returned (.int k b) := by rw [h]

/-- Block g holds just these cells, of this type, none of them frozen. -/
def Bk (w : World) (g : Nat) (t : TypeId) (cs : Array Value) : Prop := w.heap[g]? = some (.cells cs t (0, 0))
theorem Bk.cell {w : World} {g : Nat} {t : TypeId} {cs : Array Value} (h : Bk w g t cs) (o : Nat) : w.cell? ⟨g, o, none⟩ = cs[o]? := cell_of_row w g o cs t (0, 0) h
theorem Bk.at_ {w : World} {g : Nat} {t : TypeId} {cs : Array Value} (h : Bk w g t cs) (o : Nat) {v : Value} (hv : cs[o]? = some v) : w.cell? ⟨g, o, none⟩ = some v := (h.cell o).trans hv
theorem Bk.fr {w : World} {g : Nat} {t : TypeId} {cs : Array Value} (h : Bk w g t cs) (o : Nat) : w.frozen? ⟨g, o, none⟩ = false := by
  unfold Bk at h
  simp [World.frozen?, h]
theorem Bk.lt {w : World} {g : Nat} {t : TypeId} {cs : Array Value} (h : Bk w g t cs) : g < w.heap.size := by
  rcases Nat.lt_or_ge g w.heap.size with h1 | h1
  · exact h1
  · unfold Bk at h; rw [Array.getElem?_eq_none h1] at h; cases h
theorem Bk.far {w : World} {g : Nat} {t : TypeId} {cs : Array Value} (h : Bk w g t cs) {p : Addr} (hp : g ≠ p.block) (u : Value) : Bk (w.setCell p u) g t cs :=
  (Below.heap_setCell w p u g hp).trans h
theorem Bk.set_ {w : World} {g : Nat} {t : TypeId} {cs : Array Value} (h : Bk w g t cs) (o : Nat) (u : Value) : Bk (w.setCell ⟨g, o, none⟩ u) g t (cs.setIfInBounds o u) := by
  unfold Bk at *
  simp [World.setCell, Array.getElem?_modify, h]
theorem Bk.old {w w' : World} {g : Nat} {t : TypeId} {cs : Array Value} (h : Bk w g t cs) (hb : Old w w') : Bk w' g t cs := (hb.block g h.lt).trans h
theorem Bk.grown {w w' : World} {g : Nat} {t : TypeId} {cs : Array Value} {row : Option Nat} (h : Bk w g t cs) (hg : w.grownBy w' row) (hne : some g ≠ row) : Bk w' g t cs :=
  (hg.block g h.lt hne).trans h
theorem Bk.ne {w : World} {g h : Nat} {t u : TypeId} {cs ds : Array Value} (a : Bk w g t cs) (b : Bk w h u ds) (hne : t ≠ u) : g ≠ h := by
  rintro rfl
  unfold Bk at *
  rw [a] at b
  injection b with b
  injection b with _ b
  exact hne b
theorem new_bk (w : World) (t : TypeId) (cs : Array Value) : Bk (w.alloc (.cells cs t)) w.heap.size t cs := heap_alloc_new w _

theorem new_bk' (w : World) (t : TypeId) (cs : Array Value) (g : Nat) (hg : g = w.heap.size) : Bk (w.alloc (.cells cs t)) g t cs := by rw [hg]; exact new_bk w t cs

/-- How a pointer to a file reads: the number of its block. -/
def ptrR (v : Value) : Option (DataW Unit × List MemPlace) :=
  match v with
  | .pointer none => some (.nil, [])
  | .pointer (some ⟨b, 0, none⟩) => some (.lit (.int .i64 (b : Int)), [])
  | _ => none
def tok (b : Nat) : DataW Unit := .lit (.int .i64 (b : Int))
abbrev ptr (b : Nat) : Value := .pointer (some ⟨b, 0, none⟩)
theorem ptrR_ptr (b : Nat) : ptrR (ptr b) = some (tok b, []) := rfl
theorem ptrR_form {v : Value} {y : DataW Unit × List MemPlace} (h : ptrR v = some y) : (v = .pointer none ∧ y = (.nil, [])) ∨ ∃ b, v = ptr b ∧ y = (tok b, []) := by
  unfold ptrR at h
  split at h
  · injection h with h; exact .inl ⟨rfl, h.symm⟩
  · injection h with h; exact .inr ⟨_, rfl, h.symm⟩
  · cases h
theorem ptrR_tok {v : Value} {b : Nat} {ps : List MemPlace} (h : ptrR v = some (tok b, ps)) : v = ptr b := by
  rcases ptrR_form h with ⟨rfl, e⟩ | ⟨b', rfl, e⟩
  · injection e with e _; cases e
  · injection e with e _
    unfold tok at e
    injection e with e
    injection e with _ e
    have : b = b' := by omega
    rw [this]
theorem ptrR_nil {v : Value} {ps : List MemPlace} (h : ptrR v = some (.nil, ps)) : v = .pointer none := by
  rcases ptrR_form h with ⟨rfl, e⟩ | ⟨b', rfl, e⟩
  · rfl
  · injection e with e _; cases e

/-- The map's datum has just these files. -/
structure Rep (D : DataW Unit) (L : List Fl) : Prop where
  has : ∀ s, Maps.has D (.string s) = (fnd L s).isSome
  at_ : ∀ s f, fnd L s = some f → ∀ z, D.atKey (.string s) z = tok f.blk
  size : Maps.size D = L.length

theorem key_ne {a b : List UInt8} (h : a ≠ b) : (Lit.string a) ≠ (Lit.string b) := fun e => h (by injection e)
theorem isKey (s : List UInt8) : WideAt.IsKeyLit (.string s) := trivial
theorem len_del {L : List Fl} (hn : (L.map (·.name)).Nodup) (s : List UInt8) : (del s L).length + (if (fnd L s).isSome then 1 else 0) = L.length := by
  cases h : fnd L s with
  | none => rw [del_none h]; simp
  | some f =>
    have hf := fnd_mem h
    have hs := fnd_name h
    subst hs
    clear h
    induction L with
    | nil => cases hf
    | cons x L ih =>
      rw [List.map_cons, List.nodup_cons] at hn
      rcases List.mem_cons.1 hf with h | h
      · subst h
        have : del f.name (f :: L) = L := by
          unfold del
          rw [List.filter_cons_of_neg (by simp), List.filter_eq_self]
          intro g hg
          have : g.name ≠ f.name := fun e => hn.1 (List.mem_map.2 ⟨g, hg, e⟩)
          simpa using this
        rw [this]
        rfl
      · have hne : x.name ≠ f.name := fun e => hn.1 (List.mem_map.2 ⟨f, h, e.symm⟩)
        have := ih hn.2 h
        unfold del at this ⊢
        rw [List.filter_cons_of_pos (by simpa using hne)]
        simp at this ⊢
        omega
theorem Rep.del {D : DataW Unit} {L : List Fl} (h : Rep D L) (ht : Tidy D) (hn : (L.map (·.name)).Nodup) (s : List UInt8) : Rep (D.del (.string s)) (del s L) := by
  refine ⟨fun t => ?_, fun t f hf z => ?_, ?_⟩
  · rw [fnd_del]
    by_cases e : s = t
    · subst e; rw [if_pos rfl, has_del_same]; rfl
    · rw [if_neg e, has_del_other (key_ne fun h => e h.symm), h.has]
  · rw [fnd_del] at hf
    by_cases e : s = t
    · rw [if_pos e] at hf; cases hf
    · rw [if_neg e] at hf
      rw [atKey_del_other (key_ne fun h => e h.symm)]
      exact h.at_ t f hf z
  · have h1 := size_del (k := .string s) ht
    rw [h.has, h.size] at h1
    have h2 := len_del hn s
    omega
theorem Rep.put {D : DataW Unit} {L : List Fl} (h : Rep D L) (ht : Tidy D) (hn : (L.map (·.name)).Nodup) (f : Fl) : Rep (D.put (.string f.name) (tok f.blk)) (put f L) := by
  refine ⟨fun t => ?_, fun t g hg z => ?_, ?_⟩
  · rw [fnd_put]
    by_cases e : f.name = t
    · subst e; rw [if_pos rfl, has_put_same ht.isMap (isKey _)]; rfl
    · rw [if_neg e, has_put_other (key_ne fun h => e h.symm), h.has]
  · rw [fnd_put] at hg
    by_cases e : f.name = t
    · subst e
      rw [if_pos rfl] at hg
      injection hg with hg
      subst hg
      exact atKey_put_same ht.isMap (isKey _) _ _
    · rw [if_neg e] at hg
      rw [atKey_put_other (key_ne fun h => e h.symm)]
      exact h.at_ t g hg z
  · rw [size_put ht, h.has, h.size]
    have h2 := len_del hn f.name
    unfold Go.Proofs.YtilimfbjkgeciaaDoor.put
    rw [List.length_append, List.length_singleton]
    cases hs : (fnd L f.name).isSome
    · rw [hs] at h2; simp at h2 ⊢; omega
    · rw [hs] at h2; simp at h2 ⊢; omega
theorem Rep.map {D : DataW Unit} {L : List Fl} (h : Rep D L) (g : Fl → Fl) (hg : ∀ f, (g f).name = f.name) (hb : ∀ f, (g f).blk = f.blk) : Rep D (L.map g) := by
  refine ⟨fun t => ?_, fun t f hf z => ?_, ?_⟩
  · rw [h.has, fnd_map L g hg]; cases fnd L t <;> rfl
  · rw [fnd_map L g hg] at hf
    cases hx : fnd L t with
    | none => rw [hx] at hf; cases hf
    | some y =>
      rw [hx] at hf
      injection hf with hf
      subst hf
      rw [hb]
      exact h.at_ t y hx z
  · rw [h.size, List.length_map]
theorem Rep.none {D : DataW Unit} {L : List Fl} (h : Rep D L) {s : List UInt8} (hf : fnd L s = none) (z : DataW Unit) : D.atKey (.string s) z = z := by
  refine atKey_of_not_has ?_ z
  rw [h.has, hf]
  rfl

/-- A fuse: how many calls, what is kept, and the blocks of the gate's variables. -/
structure Fz where
  n : Nat
  keep : Int
  gn : Nat
  gk : Nat
  gd : Nat
/-- A disk: where its struct and its map lie, and what it has. -/
structure Dsk where
  d : Nat
  m : Nat
  cap : Nat
  files : List Fl
  up : Bool
  fuse : Option Fz
abbrev gateO : Value := .func (.func 48) #[] #[]
def gateV : Option Fz → Value
  | none => gateO
  | some z => .func (.func 70) #[] #[ptr z.gn, ptr z.gk, ptr z.gd]
def gateB : Option Fz → List Nat
  | none => []
  | some z => [z.gn, z.gk, z.gd]
/-- The blocks that a disk owns. -/
def own (k : Dsk) : List Nat := k.d :: k.m :: (gateB k.fuse ++ k.files.map (·.blk))
abbrev fcells (f : Fl) : Array Value := #[.string (B f.s), .int .i64 (f.n : Int)]
/-- What holds of a disk's files. -/
structure Ok (k : Dsk) : Prop where
  names : (k.files.map (·.name)).Nodup
  blks : (k.files.map (·.blk)).Nodup
  syn : ∀ f ∈ k.files, f.n ≤ f.s.length
  nm : ∀ f ∈ k.files, 1 ≤ f.name.length ∧ f.name.length ≤ 60
  room : total k.files ≤ k.cap
  many : k.files.length ≤ 200
  capb : k.cap ≤ 1000000000000
/-- The greatest number. -/
def bigN : Nat := 9223372036854775807
/-- What holds of a gate. -/
def Gate (w : World) (d : Nat) : Option Fz → Prop
  | none => True
  | some z => 1 ≤ z.n ∧ z.n ≤ bigN ∧ Bk w z.gn 3 #[.int .i64 (z.n : Int)] ∧ Bk w z.gk 3 #[.int .i64 z.keep] ∧ z.gn ≠ z.gk ∧ Bk w z.gd 25 #[ptr d]
/-- A disk lies in memory. -/
structure Dk (w : World) (k : Dsk) : Prop where
  disk : Bk w k.d 61 #[.int .i64 (k.cap : Int), .map (some k.m), .bool k.up, gateV k.fuse]
  map : ∃ D, w.ownsMap Tryd.prog 9 ptrR k.m k.files.length D ∧ Rep D k.files
  files : ∀ f ∈ k.files, Bk w f.blk 85 (fcells f)
  gate : Gate w k.d k.fuse
  ok : Ok k

theorem ownsMap_tight {w : World} {P : Program} {t : TypeId} {R : Value → Option (DataW Unit × List MemPlace)} {b n : Nat} {D : DataW Unit} (h : w.ownsMap P t R b n D) : w.ownsMap P t R b (Maps.size D) D := by
  obtain ⟨es, c, h1, h2, _, rfl⟩ := h
  exact ⟨es, c, h1, h2, by simp [Maps.size, length_sorted], rfl⟩
theorem ownsMap_old {w W : World} {P : Program} {k : TypeId} {R : Value → Option (DataW Unit × List MemPlace)} {b n : Nat} {D : DataW Unit} (h : w.ownsMap P k R b n D) (hO : Old w W) : W.ownsMap P k R b n D := by
  have hlt := h.lt
  obtain ⟨es, c, h1, h2⟩ := h
  exact ⟨es, c, (hO.block b hlt).trans h1, h2⟩
theorem Gate.kept {w w' : World} {d : Nat} {z : Option Fz} (h : Gate w d z) (hk : ∀ i ∈ gateB z, i < w.heap.size → w'.heap[i]? = w.heap[i]?) : Gate w' d z := by
  cases z with
  | none => trivial
  | some z =>
    obtain ⟨h1, h1', h2, h3, h4, h5⟩ := h
    exact ⟨h1, h1', (hk _ (by simp [gateB]) h2.lt).trans h2, (hk _ (by simp [gateB]) h3.lt).trans h3, h4, (hk _ (by simp [gateB]) h5.lt).trans h5⟩
/-- All the disk's blocks are as they were: so is the disk. -/
theorem Dk.same {w w' : World} {k : Dsk} (h : Dk w k) (hk : ∀ i ∈ own k, i < w.heap.size → w'.heap[i]? = w.heap[i]?) : Dk w' k := by
  refine ⟨(hk _ (by simp [own]) h.disk.lt).trans h.disk, ?_, fun f hf => (hk _ ?_ (h.files f hf).lt).trans (h.files f hf), h.gate.kept fun i hi => hk i ?_, h.ok⟩
  · obtain ⟨D, h1, h2⟩ := h.map
    have hlt := h1.lt
    obtain ⟨es, c, h3, h4⟩ := h1
    exact ⟨D, ⟨es, c, (hk _ (by simp [own]) hlt).trans h3, h4⟩, h2⟩
  · simp only [own, List.mem_cons, List.mem_append]
    exact .inr (.inr (.inr (List.mem_map.2 ⟨f, hf, rfl⟩)))
  · simp only [own, List.mem_cons, List.mem_append]
    exact .inr (.inr (.inl hi))
theorem Dk.old {w w' : World} {k : Dsk} (h : Dk w k) (o : Old w w') : Dk w' k := h.same fun i _ hi => o.block i hi
theorem Dk.lt {w : World} {k : Dsk} (h : Dk w k) : ∀ i ∈ own k, i < w.heap.size := by
  intro i hi
  simp only [own, List.mem_cons, List.mem_append] at hi
  rcases hi with rfl | rfl | hi | hi
  · exact h.disk.lt
  · obtain ⟨D, h1, _⟩ := h.map; exact h1.lt
  · have hg := h.gate
    cases hz : k.fuse with
    | none => rw [hz] at hi; cases hi
    | some z =>
      rw [hz] at hi hg
      obtain ⟨_, _, h2, h3, _, h5⟩ := hg
      simp only [gateB, List.mem_cons, List.not_mem_nil, or_false] at hi
      rcases hi with rfl | rfl | rfl
      · exact h2.lt
      · exact h3.lt
      · exact h5.lt
  · obtain ⟨f, hf, rfl⟩ := List.mem_map.1 hi
    exact (h.files f hf).lt

/-- From one disk to another: all else stays; what it owns now, it owned, or it is new. -/
structure Kept (k k' : Dsk) (w w' : World) : Prop where
  os : w'.os = w.os
  tape : w'.tape = w.tape
  output : w'.output = w.output
  size : w.heap.size ≤ w'.heap.size
  block : ∀ i, i < w.heap.size → i ∉ own k → w'.heap[i]? = w.heap[i]?
  own : ∀ i ∈ own k', i ∈ own k ∨ w.heap.size ≤ i
theorem Kept.of_old {k : Dsk} {w w' : World} (h : Old w w') : Kept k k w w' := ⟨h.os, h.tape, h.output, h.size, fun i hi _ => h.block i hi, fun _ hi => .inl hi⟩
theorem Kept.re (k : Dsk) (w : World) : Kept k k w w := .of_old (Old.re w)
theorem Kept.tr {k k1 k2 : Dsk} {w w1 w2 : World} (h : Kept k k1 w w1) (g : Kept k1 k2 w1 w2) : Kept k k2 w w2 := by
  refine ⟨g.os.trans h.os, g.tape.trans h.tape, g.output.trans h.output, Nat.le_trans h.size g.size, fun i hi hn => ?_, fun i hi => ?_⟩
  · rw [g.block i (Nat.lt_of_lt_of_le hi h.size) ?_, h.block i hi hn]
    intro hx
    rcases h.own i hx with h1 | h1
    · exact hn h1
    · omega
  · rcases g.own i hi with h1 | h1
    · exact h.own i h1
    · exact .inr (Nat.le_trans h.size h1)
theorem Kept.old {k k' : Dsk} {w w1 w2 : World} (h : Kept k k' w w1) (o : Old w1 w2) : Kept k k' w w2 := h.tr (.of_old o)
theorem Kept.bk {k k' : Dsk} {w w' : World} (h : Kept k k' w w') {g : Nat} {t : TypeId} {cs : Array Value} (hb : Bk w g t cs) (hg : g ∉ Go.Proofs.YtilimfbjkgeciaaDoor.own k) : Bk w' g t cs := (h.block g hb.lt hg).trans hb
/-- A law's disk: it owns nothing that was there when the law began. -/
theorem Kept.over {k k' : Dsk} {w w1 w2 : World} (h : Kept k k' w1 w2) (o : Old w w1) (hn : ∀ i ∈ Go.Proofs.YtilimfbjkgeciaaDoor.own k, w.heap.size ≤ i) : Old w w2 ∧ ∀ i ∈ Go.Proofs.YtilimfbjkgeciaaDoor.own k', w.heap.size ≤ i := by
  refine ⟨⟨h.os.trans o.os, h.tape.trans o.tape, h.output.trans o.output, Nat.le_trans o.size h.size, fun i hi => ?_⟩, fun i hi => ?_⟩
  · rw [h.block i (Nat.lt_of_lt_of_le hi o.size) (fun hx => by have := hn i hx; omega), o.block i hi]
  · rcases h.own i hi with h1 | h1
    · exact hn i h1
    · exact Nat.le_trans o.size h1
/-- A block of another type is none of the disk's. -/
theorem Dk.other {w : World} {k : Dsk} (h : Dk w k) {g : Nat} {t : TypeId} {cs : Array Value} (hb : Bk w g t cs) (h1 : t ≠ 61) (h2 : t ≠ 85) (h3 : t ≠ 3) (h4 : t ≠ 25) : g ∉ own k := by
  intro hi
  simp only [own, List.mem_cons, List.mem_append] at hi
  rcases hi with rfl | rfl | hi | hi
  · exact Bk.ne hb h.disk h1 rfl
  · obtain ⟨D, ⟨es, c, h3, _⟩, _⟩ := h.map
    unfold Bk at hb
    rw [hb] at h3
    cases h3
  · have hg := h.gate
    cases hz : k.fuse with
    | none => rw [hz] at hi; cases hi
    | some z =>
      rw [hz] at hi hg
      obtain ⟨_, _, b2, b3, _, b5⟩ := hg
      simp only [gateB, List.mem_cons, List.not_mem_nil, or_false] at hi
      rcases hi with rfl | rfl | rfl
      · exact Bk.ne hb b2 h3 rfl
      · exact Bk.ne hb b3 h3 rfl
      · exact Bk.ne hb b5 h4 rfl
  · obtain ⟨f, hf, rfl⟩ := List.mem_map.1 hi
    exact Bk.ne hb (h.files f hf) h2 rfl
theorem Dk.newer {w : World} {k : Dsk} (h : Dk w k) {i : Nat} (hi : w.heap.size ≤ i) : i ∉ own k := fun hx => by have := h.lt i hx; omega

theorem lawS : Keyed Tryd.prog 9 := string_keyed Tryd.underlying9
theorem keyS (s : List UInt8) (hs : s.length ≤ 100000) : keyOf Tryd.prog 9 (.string (B s)) = some (.string s) := by
  have := WideMaps.keyOf_string_mk (k := 9) Tryd.underlying9 (s := B s) (by simp [ByteArray.size, maxLen]; omega)
  simpa using this
theorem zeroP (w : World) : (zeroValue 81).run Tryd.prog w = .ok (.pointer none) w := by kernel_rfl
/-- What is found by a name, as a value. -/
def fptr (L : List Fl) (s : List UInt8) : Value := match fnd L s with | some f => ptr f.blk | none => .pointer none
theorem Dk.look {w : World} {k : Dsk} (h : Dk w k) (s : List UInt8) (hs : s.length ≤ 100000) : (Instr.lookup 56 (.map (some k.m)) (.string (B s)) false).run Tryd.prog w = .ok (fptr k.files s) w := by
  obtain ⟨D, h1, h2⟩ := h.map
  obtain ⟨v, ps, hr, hv⟩ := h1.lookup lawS Tryd.underlying56 (zeroP w) (show ptrR (.pointer none) = some (.nil, []) from rfl) (keyS s hs)
  rw [hr]
  congr 1
  unfold fptr
  cases hf : fnd k.files s with
  | none => rw [h2.none hf] at hv; exact ptrR_nil hv
  | some f => rw [h2.at_ s f hf] at hv; exact ptrR_tok hv
end Go.Proofs.YtilimfbjkgeciaaDoor
