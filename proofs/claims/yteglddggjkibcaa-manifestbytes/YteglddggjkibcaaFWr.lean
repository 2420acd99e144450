/-
  The code's writer: number, text, file. Conditions: lengths as written.
-/
import Derived.Test.YteglddggjkibcaaFRu2
import Derived.Lib.AppendStr
import Derived.Deep.AppendLies
import Derived.Deep.RegionLaw
namespace Go.Proofs.Yteglddggjkibcaa
open Go.RowKit

/-- Bytes as cells. -/
def bs (l : List UInt8) : List Value := l.map fun b => .int .u8 (b.toNat : Int)
theorem bs_length (l : List UInt8) : (bs l).length = l.length := by simp [bs]
theorem bs_append (l m : List UInt8) : bs (l ++ m) = bs l ++ bs m := by simp [bs]
theorem bs_one (l : List UInt8) : ∀ u ∈ bs l, u.oneCell' = true := by
  intro u hu
  obtain ⟨_, _, rfl⟩ := List.mem_map.1 hu
  rfl

/-- v is a slice of the call's own, from block base on, that holds just the bytes l. -/
def Own (w : World) (base : Nat) (v : Value) (l : List UInt8) : Prop := w.ownsRow base 5 1 v l.length (bs l)
theorem Try.info5 : (Try.prog.info? 5).map (fun i => (i.zero, i.size, i.bytes)) = some (some (.int .u8 0), 1, 1) := by kernel_rfl
theorem Own.nil (w : World) (base : Nat) : Own w base (.slice none 0 0) [] := World.ownsRow_nil _ _ _ _
theorem Own.alloc {w : World} {base : Nat} {v : Value} {l : List UInt8} (h : Own w base v l) (o : Obj) : Own (w.alloc o) base v l := World.ownsRow.alloc h o
theorem Own.drew {w : World} {base : Nat} {v : Value} {l : List UInt8} (h : Own w base v l) : Own w.drew base v l := h

theorem fold_push (l : List UInt8) : ∀ r : ByteArray, ((l.map fun b => (b.toNat : Int)).foldl (fun r n => r.push (UInt8.ofNat n.toNat)) r) = ⟨r.data ++ l.toArray⟩ := by
  induction l with
  | nil => intro r; simp
  | cons b l ih =>
    intro r
    simp only [List.map_cons, List.foldl_cons]
    rw [ih]
    simp [ByteArray.push]

/-- string(v). -/
theorem run_str {w : World} {base : Nat} {v : Value} {l : List UInt8} (h : Own w base v l) : (convert 81 9 v).run Try.prog w = .ok (.string (B l)) w := by
  rcases h.2 with ⟨rfl, hn⟩ | ⟨g, cap, cur, rfl, _, hg, hnc, _, hcs, htake⟩
  · have : l = [] := List.eq_nil_of_length_eq_zero hn
    subst this
    rw [run_convert_bytes_string w _ _ _ _ _ _ Try.underlying81 Try.underlying5 Try.underlying9]
    simp [Conv.bytesToString]
    rfl
  · rw [run_convert_bytes_string w _ _ _ _ _ _ Try.underlying81 Try.underlying5 Try.underlying9]
    rw [run_bytesToString w ⟨g, 0, none⟩ l.length cap (l.map fun b => (b.toNat : Int)) ?_]
    · rw [fold_push]
      show Result.ok (Value.string ⟨#[] ++ l.toArray⟩) w = _
      rw [Array.empty_append]
    · have h1 := run_loadCells_list (P := Try.prog) w ⟨g, 0, none⟩ (bs l) (fun j u hu => World.ownsRow.cells h (g := g) rfl j u hu)
      rw [bs_length] at h1
      rw [h1]
      simp [bs]

/-- Cells of type t. -/
def isT (t : TypeId) : Obj → Bool
  | .cells _ u _ => u == t
  | _ => false
/-- All lies as it lay, but for block g, and for rows of type t behind it. -/
structure KeepT (t : TypeId) (g : Nat) (w w' : World) : Prop where
  os : w'.os = w.os
  tape : w'.tape = w.tape
  output : w'.output = w.output
  size : w.heap.size ≤ w'.heap.size
  block : ∀ i o, w.heap[i]? = some o → i ≠ g → (i < g ∨ isT t o = false) → w'.heap[i]? = some o
theorem KeepT.re (t g : Nat) (w : World) : KeepT t g w w := ⟨rfl, rfl, rfl, Nat.le_refl _, fun _ _ h _ _ => h⟩
theorem KeepT.tr {t g : Nat} {w w1 w2 : World} (h : KeepT t g w w1) (k : KeepT t g w1 w2) : KeepT t g w w2 :=
  ⟨k.os.trans h.os, k.tape.trans h.tape, k.output.trans h.output, Nat.le_trans h.size k.size, fun i o ho hne hx => k.block i o (h.block i o ho hne hx) hne hx⟩
theorem KeepT.of_old {t g : Nat} {w w1 : World} (h : Old w w1) : KeepT t g w w1 :=
  ⟨h.os, h.tape, h.output, h.size, fun i _ ho _ _ => (h.block i (Array.getElem?_eq_some_iff.1 ho).1).trans ho⟩
theorem KeepT.old {t g : Nat} {w w1 w2 : World} (h : KeepT t g w w1) (k : Old w1 w2) : KeepT t g w w2 := h.tr (.of_old k)
theorem KeepT.al {t g : Nat} {w w1 : World} (h : KeepT t g w w1) (o : Obj) : KeepT t g w (w1.alloc o) := h.old (old_alloc _ _)
theorem KeepT.dr {t g : Nat} {w w1 : World} (h : KeepT t g w w1) : KeepT t g w w1.drew := ⟨h.os, h.tape, h.output, h.size, h.block⟩
theorem KeepT.dn {t g : Nat} {w w1 : World} (h : KeepT t g w w1) (n : Nat) : KeepT t g w (w1.drewN n) := ⟨h.os, h.tape, h.output, h.size, h.block⟩
theorem KeepT.st {t g : Nat} {w w1 : World} (h : KeepT t g w w1) (o : Nat) (u : Value) : KeepT t g w (w1.setCell ⟨g, o, none⟩ u) :=
  ⟨h.os, h.tape, h.output, by simpa [World.setCell] using h.size, fun i ob ho hne hx => (Below.heap_setCell w1 ⟨g, o, none⟩ u i (fun e => hne e)).trans (h.block i ob ho hne hx)⟩
theorem KeepT.grown {t g base n sz : Nat} {w w1 w2 : World} {v : Value} {xs : List Value} (h : KeepT t g w w1) (ho : w1.ownsRow base t sz v n xs) (hb : g ≤ base) (hg : w1.grownBy w2 v.ownBlock) : KeepT t g w w2 := by
  refine h.tr ⟨hg.os, hg.tape, hg.output, hg.size, fun i o hi hne hx => ?_⟩
  refine (hg.block i (Array.getElem?_eq_some_iff.1 hi).1 ?_).trans hi
  intro e
  rcases ho.2 with ⟨rfl, _⟩ | ⟨g', cap, cur, rfl, hbg, hgc, _⟩
  · cases e
  · have : i = g' := by simpa [Value.ownBlock] using e
    subst this
    rw [hgc] at hi
    injection hi with hi
    subst hi
    rcases hx with hx | hx
    · omega
    · simp [isT] at hx
theorem KeepT.below {t g : Nat} {w w1 : World} (h : KeepT t g w w1) (hg : g ≤ w.heap.size) : Below g w w1 := by
  refine ⟨h.os, h.tape, h.output, h.size, fun i hi => ?_⟩
  have h1 : w.heap[i]? = some w.heap[i] := Array.getElem?_eq_getElem (by omega)
  rw [h1]
  exact h.block i _ h1 (by omega) (.inl hi)
theorem Bk.keep {t g : Nat} {w w1 : World} {b : Nat} {u : TypeId} {cs : Array Value} (h : Bk w b u cs) (k : KeepT t g w w1) (hne : b ≠ g) (ht : b < g ∨ (u == t) = false) : Bk w1 b u cs :=
  k.block b _ h hne ht

/-- Block g is a writer: what is written lies behind it. -/
def Wr (w : World) (g : Nat) (l : List UInt8) : Prop := ∃ v, Bk w g 83 #[v] ∧ Own w (g + 1) v l
theorem own_not {w : World} {base : Nat} {v : Value} {l : List UInt8} (h : Own w base v l) {g : Nat} (hg : g < base) : some g ≠ v.ownBlock := by
  intro e
  have := (World.ownsRow.lt h g e.symm).1
  omega
theorem Own.set_ {w : World} {base : Nat} {v : Value} {l : List UInt8} (h : Own w base v l) {g : Nat} (hg : g < base) (o : Nat) (u : Value) : Own (w.setCell ⟨g, o, none⟩ u) base v l := by
  have hb : w.grownBy (w.setCell ⟨g, o, none⟩ u) (some g) := ⟨rfl, rfl, rfl, by simp [World.setCell], fun i _ hne => Below.heap_setCell w ⟨g, o, none⟩ u i (by rintro rfl; exact hne rfl)⟩
  refine World.ownsRow.kept (row := some g) h hb ?_
  exact .inr (own_not h hg).symm

/-- append(v, x..), as one step of a region that draws its order. -/
theorem step_app {ops : Array Oper} {o : Oper} {a : Act} {K : Act → World → Prop} {Q : Exit → Act → World → Prop} {E : Prop} {w : World} (hgd : o.guard = none) (s x : Operand)
    (ho : o.op = .call { callee := .builtin .append, args := #[s, x], argTypes := #[81, 81] })
    {base : Nat} {v : Value} {l : List UInt8} (hs : a.eval s = v) (hown : Own w base v l) (b : UInt8) (g c : Nat) (hx : a.eval x = .slice (some ⟨g, 0, none⟩) 1 c)
    (hnews : w.heap[g]? = some (.cells #[.int .u8 (b.toNat : Int)] 5 (0, 0))) (hlen : l.length ≤ 100000000) (hbase : base ≤ w.heap.size)
    (h : ∀ g' cap w', Own w' base (.slice (some ⟨g', 0, none⟩) (l.length + 1) cap) (l ++ [b]) → w.grownBy w' v.ownBlock → K (a.put o.dst (.slice (some ⟨g', 0, none⟩) (l.length + 1) cap)) w') :
    if Region.wanted o (yielded ops a.tmps) = true then Oper.wp Try.prog o a w K Q else E := by
  obtain ⟨i0, hi, hz0, hz1, hz2⟩ := info_parts Try.info5
  refine step_append_lies w hgd s x 81 ho base 5 i0 (.int .u8 0) 1 1 Try.underlying81 hi hz0 hz1 hz2 rfl (by decide) v l.length (bs l) hs hown ⟨g, 0, none⟩ 1 c (bs [b]) hx (by simp [bs]) ?_ (bs_one _) (by decide) (by unfold maxLen; omega) (by omega) hbase _ rfl ?_
  · intro j u hu
    have h1 := cell_of_row w g j _ _ _ hnews
    rw [Addr.add_lit, Nat.zero_add, h1]
    simpa [bs] using hu
  · intro g' cap w' h2 h3 _ _
    refine h g' cap w' ?_ h3
    unfold Own
    rw [bs_append, List.length_append]
    exact h2

/-- append(v, s..) of a text, as one step of a region. -/
theorem wp_appt {ops : Array Oper} {rest : List Oper} {o : Oper} {a : Act} {Q : Exit → Act → World → Prop} {w : World} (hgd : o.guard = none) (s x : Operand)
    (ho : o.op = .call { callee := .builtin .append, args := #[s, x], argTypes := #[81, 9] })
    {base : Nat} {v : Value} {l : List UInt8} (hs : a.eval s = v) (hown : Own w base v l) (news : List UInt8) (hx : a.eval x = .string (B news)) (hlen : l.length + news.length ≤ 100000000) (hbase : base ≤ w.heap.size)
    (h : ∀ v' w', Own w' base v' (l ++ news) → w.grownBy w' v.ownBlock → wpList Try.prog ops Q rest (a.put o.dst v') w') : wpList Try.prog ops Q (o :: rest) a w := by
  obtain ⟨i0, hi, hz0, hz1, hz2⟩ := info_parts Try.info5
  have hsz : (B news).size = news.length := by simp [ByteArray.size]
  refine Lib.wpList_append_own_string w hgd s x 81 9 ho base 5 i0 Try.underlying81 Try.underlying9 hi hz0 hz1 hz2 v l.length (bs l) hs hown (B news) hx (by rw [hsz]; unfold maxLen; omega) (by rw [hsz]; omega) hbase ?_
  intro v' w' h2 h3 _
  refine h v' w' ?_ h3
  unfold Own
  rw [bs_append, List.length_append]
  rw [hsz] at h2
  exact h2

theorem new_cell8 (w : World) (x : Int) (m : Nat) (h : x = ((m % 256 : Nat) : Int)) : (w.alloc (.cells #[.int .u8 x] 5)).heap[w.heap.size]? = some (.cells #[.int .u8 ((UInt8.ofNat m).toNat : Int)] 5 (0, 0)) := by
  subst h
  have := heap_alloc_new w (.cells #[.int .u8 ((m % 256 : Nat) : Int)] 5)
  simpa using this

theorem wrap8 (x : Int) (m : Nat) (h : x = (m : Int)) : IntKind.u8.wrap x = ((m % 256 : Nat) : Int) := by
  subst h
  have : IntKind.u8.wrap (m : Int) = (m : Int) % 256 := IntKind.wrap_u8 _
  rw [this]; omega

/-- A writer behind one more byte. -/
theorem Wr.put1 {w1 : World} {g g' cap : Nat} {l : List UInt8} {v : Value} {b : UInt8} (hB : Bk w1 g 83 #[v]) (h : Own w1 (g + 1) (.slice (some ⟨g', 0, none⟩) (l.length + 1) cap) (l ++ [b])) :
    Wr (w1.setCell ⟨g, 0, none⟩ (.slice (some ⟨g', 0, none⟩) (l.length + 1) cap)) g (l ++ [b]) :=
  ⟨_, hB.set_ 0 _, h.set_ (by omega) 0 _⟩
theorem Wr.cs {w : World} {g : Nat} {l : List UInt8} (h : Wr w g l) : ∃ v, w.cell? ⟨g, 0, none⟩ = some v ∧ w.frozen? ⟨g, 0, none⟩ = false ∧ g < w.heap.size ∧ Bk w g 83 #[v] ∧ Own w (g + 1) v l := by
  obtain ⟨v, hB, hO⟩ := h
  exact ⟨v, hB.cell 0, hB.fr 0, hB.lt, hB, hO⟩
theorem round_keep {w w1 : World} {g : Nat} {v u : Value} {l : List UInt8} {o : Obj} (hO : Own w (g + 1) v l) (gr : (w.alloc o).drew.grownBy w1 v.ownBlock) : KeepT 5 g w (w1.setCell ⟨g, 0, none⟩ u) :=
  (((((KeepT.re _ _ _).al _).dr).grown (hO.alloc _).drew (by omega) gr).st 0 u)
theorem Own.form {w : World} {base : Nat} {v : Value} {l : List UInt8} (h : Own w base v l) : ∃ A n cap, v = .slice A n cap := by
  rcases h.2 with ⟨rfl, _⟩ | ⟨g', cap, cur, rfl, _⟩
  · exact ⟨_, _, _, rfl⟩
  · exact ⟨_, _, _, rfl⟩

theorem Wr.al {w : World} {g : Nat} {l : List UInt8} (h : Wr w g l) (o : Obj) : Wr (w.alloc o) g l := by
  obtain ⟨v, hB, hO⟩ := h
  exact ⟨v, hB.alloc o, hO.alloc o⟩
/-- The lowest bytes of a number. -/
def lowN (n : Nat) : Nat → List UInt8
  | 0 => []
  | k + 1 => lowN n k ++ [UInt8.ofNat (n / 256 ^ k)]
theorem lowN_length (n k : Nat) : (lowN n k).length = k := by
  induction k with
  | zero => rfl
  | succ k ih => rw [lowN, List.length_append, ih]; rfl
theorem pow8 (k : Nat) : (2 : Nat) ^ (8 * k) = 256 ^ k := by rw [Nat.pow_mul]
theorem shr_byte (n k : Nat) : (n : Int) / 2 ^ (8 * k) % 256 = ((n / 256 ^ k % 256 : Nat) : Int) := by
  rw [show ((2 : Int) ^ (8 * k)) = ((256 ^ k : Nat) : Int) by rw [← pow8]; simp]
  rfl
set_option maxRecDepth 100000 in
set_option maxHeartbeats 2000000 in
theorem wnumber_any (g : Nat) (l : List UInt8) (n k : Nat) (hn : n < 18446744073709551616) (hk : k ≤ 8) (w : World) (h : Wr w g l) (hl : l.length ≤ 10000000) :
    Calls Try.prog 45 #[.pointer (some ⟨g, 0, none⟩), .int .u64 n, .int .i64 k] w fun e w' => (∃ u, e = .returned u) ∧ Wr w' g (l ++ lowN n k) ∧ KeepT 5 g w w' := by
  go_enter Try.func45, Try.ntmps45
  go_wp2_with fail
  go_loopw [8] (fun i wr => ∃ j : Nat, j ≤ k ∧ i = .int .i64 j ∧ Hid (Wr wr g (l ++ lowN n j) ∧ KeepT 5 g w wr)) (fun i _ => k - (intOf i).toNat)
  case atStart => exact ⟨0, Nat.zero_le _, rfl, Lib.hid ⟨by simpa [lowN] using h, KeepT.re _ _ _⟩⟩
  case round =>
    obtain ⟨j, hj, rfl, HW⟩ := hrel
    by_cases hlt : j < k
    · obtain ⟨v, c0, f0, hlt2, hB, hO⟩ := HW.out.1.cs
      have hl2 : (l ++ lowN n j).length ≤ 10000008 := by rw [List.length_append, lowN_length]; omega
      have HEx := Lib.hid (show l ++ lowN n (j + 1) = (l ++ lowN n j) ++ [UInt8.ofNat (n / 256 ^ j)] by rw [lowN, List.append_assoc])
      have HK := Lib.hid HW.out.2
      clear HW
      generalize l ++ lowN n j = l2 at *
      have hw8 : IntKind.i64.wrap (8 * (j : Int)) = 8 * (j : Int) := by rw [IntKind.wrap_i64]; omega
      have z0 : (0 : Int) ≤ 8 * (j : Int) := by omega
      have z1 : 8 * (j : Int) ≤ 64 := by omega
      have z2 : (8 * (j : Int)).toNat = 8 * j := by omega
      go_wp2_with fail
      go_region_law (refine step_app rfl (.tmp 15) (.tmp 21) rfl (v := v) (base := g + 1) (l := l2) (by simp [Act.eval]) (hO.alloc _).drew (UInt8.ofNat (n / 256 ^ j)) wr.heap.size 1 (by simp [Act.eval]) (new_cell8 _ _ _ (shr_byte n j)) (by omega) (by simp; omega) ?_; intro g' cap w1 o1 gr1; have B1 := (hB.alloc _).drew.grown gr1 (own_not hO (by omega)); have c1 := B1.cell 0; have f1 := B1.fr 0)
      all_goals
        have h2 := Wr.put1 B1 o1
        have b2 := round_keep (u := .slice (some ⟨g', 0, none⟩) (l2.length + 1) cap) hO gr1
        have HN := Lib.hid (show Wr (w1.setCell ⟨g, 0, none⟩ (.slice (some ⟨g', 0, none⟩) (l2.length + 1) cap)) g (l ++ lowN n (j + 1)) ∧ KeepT 5 g w (w1.setCell ⟨g, 0, none⟩ (.slice (some ⟨g', 0, none⟩) (l2.length + 1) cap)) from ⟨by rw [HEx.out]; exact h2, HK.out.tr b2⟩)
        clear c0 f0 hB hO B1 o1 gr1 c1 f1 h2 b2 HK HEx hw8 z0 z1 z2
        go_wp2
        go_roundw
        case rel => exact ⟨j + 1, by omega, by go_num, HN⟩
        case measure => simp [intOf]; omega
    · obtain rfl : j = k := by omega
      go_wp2
      exact bodyPost_end (results_none rfl _ _ _) rfl ⟨⟨_, rfl⟩, HW.out.1, HW.out.2⟩
end Go.Proofs.Yteglddggjkibcaa
