/-
  What the writer's calls add: number, text, flag, of the code. Conditions: lengths as written.
-/
import Derived.Test.YtlmlopdakbbbjaaGreatDoorShr
import Derived.Deep.AppendLies
import Derived.Deep.RegionLaw
namespace Go.Proofs.YtlmlopdakbbbjaaGreatDoor
open Go.RowKit

/-- Cells of type t. -/
def isT (t : TypeId) : Obj → Bool
  | .cells _ u _ => u == t
  | _ => false
/-- All lies as it lay, but for block g, and for rows of type t behind it. -/
structure KeepT (t : TypeId) (g : Nat) (w w' : World) : Prop where
  os : w'.os = w.os
  tape : w'.tape = w.tape
  output : w'.output = w.output
  size : w.heap.size ≤ w'.heap.size
  block : ∀ i o, w.heap[i]? = some o → i ≠ g → (i < g ∨ isT t o = false) → w'.heap[i]? = some o
theorem KeepT.re (t g : Nat) (w : World) : KeepT t g w w := ⟨rfl, rfl, rfl, Nat.le_refl _, fun _ _ h _ _ => h⟩
theorem KeepT.tr {t g : Nat} {w w1 w2 : World} (h : KeepT t g w w1) (k : KeepT t g w1 w2) : KeepT t g w w2 :=
  ⟨k.os.trans h.os, k.tape.trans h.tape, k.output.trans h.output, Nat.le_trans h.size k.size, fun i o ho hne hx => k.block i o (h.block i o ho hne hx) hne hx⟩
theorem KeepT.of_old {t g : Nat} {w w1 : World} (h : Old w w1) : KeepT t g w w1 :=
  ⟨h.os, h.tape, h.output, h.size, fun i _ ho _ _ => (h.block i (Array.getElem?_eq_some_iff.1 ho).1).trans ho⟩
theorem KeepT.old {t g : Nat} {w w1 w2 : World} (h : KeepT t g w w1) (k : Old w1 w2) : KeepT t g w w2 := h.tr (.of_old k)
theorem KeepT.al {t g : Nat} {w w1 : World} (h : KeepT t g w w1) (o : Obj) : KeepT t g w (w1.alloc o) := h.old (old_alloc _ _)
theorem KeepT.dr {t g : Nat} {w w1 : World} (h : KeepT t g w w1) : KeepT t g w w1.drew := ⟨h.os, h.tape, h.output, h.size, h.block⟩
theorem KeepT.dn {t g : Nat} {w w1 : World} (h : KeepT t g w w1) (n : Nat) : KeepT t g w (w1.drewN n) := ⟨h.os, h.tape, h.output, h.size, h.block⟩
theorem KeepT.st {t g : Nat} {w w1 : World} (h : KeepT t g w w1) (o : Nat) (u : Value) : KeepT t g w (w1.setCell ⟨g, o, none⟩ u) :=
  ⟨h.os, h.tape, h.output, by simpa [World.setCell] using h.size, fun i ob ho hne hx => (Below.heap_setCell w1 ⟨g, o, none⟩ u i (fun e => hne e)).trans (h.block i ob ho hne hx)⟩
theorem KeepT.grown {t g base n sz : Nat} {w w1 w2 : World} {v : Value} {xs : List Value} (h : KeepT t g w w1) (ho : w1.ownsRow base t sz v n xs) (hb : g ≤ base) (hg : w1.grownBy w2 v.ownBlock) : KeepT t g w w2 := by
  refine h.tr ⟨hg.os, hg.tape, hg.output, hg.size, fun i o hi hne hx => ?_⟩
  refine (hg.block i (Array.getElem?_eq_some_iff.1 hi).1 ?_).trans hi
  intro e
  rcases ho.2 with ⟨rfl, _⟩ | ⟨g', cap, cur, rfl, hbg, hgc, _⟩
  · cases e
  · have : i = g' := by simpa [Value.ownBlock] using e
    subst this
    rw [hgc] at hi
    injection hi with hi
    subst hi
    rcases hx with hx | hx
    · omega
    · simp [isT] at hx
theorem KeepT.below {t g : Nat} {w w1 : World} (h : KeepT t g w w1) (hg : g ≤ w.heap.size) : Below g w w1 := by
  refine ⟨h.os, h.tape, h.output, h.size, fun i hi => ?_⟩
  have h1 : w.heap[i]? = some w.heap[i] := Array.getElem?_eq_getElem (by omega)
  rw [h1]
  exact h.block i _ h1 (by omega) (.inl hi)
theorem Bk.keep {t g : Nat} {w w1 : World} {b : Nat} {u : TypeId} {cs : Array Value} (h : Bk w b u cs) (k : KeepT t g w w1) (hne : b ≠ g) (ht : b < g ∨ (u == t) = false) : Bk w1 b u cs :=
  k.block b _ h hne ht

/-- Block g is a writer: what is written lies behind it. -/
def Wr (w : World) (g : Nat) (l t : List UInt8) : Prop := ∃ v, Bk w g 112 #[v, .string (B t)] ∧ Own w (g + 1) v l

theorem own_not {w : World} {base : Nat} {v : Value} {l : List UInt8} (h : Own w base v l) {g : Nat} (hg : g < base) : some g ≠ v.ownBlock := by
  intro e
  have := (World.ownsRow.lt h g e.symm).1
  omega
theorem Bk.grown {w w' : World} {g : Nat} {t : TypeId} {cs : Array Value} {row : Option Nat} (h : Bk w g t cs) (hg : w.grownBy w' row) (hne : some g ≠ row) : Bk w' g t cs :=
  (hg.block g h.lt hne).trans h
theorem Own.set_ {w : World} {base : Nat} {v : Value} {l : List UInt8} (h : Own w base v l) {g : Nat} (hg : g < base) (o : Nat) (u : Value) : Own (w.setCell ⟨g, o, none⟩ u) base v l := by
  have hb : w.grownBy (w.setCell ⟨g, o, none⟩ u) (some g) := ⟨rfl, rfl, rfl, by simp [World.setCell], fun i _ hne => Below.heap_setCell w ⟨g, o, none⟩ u i (by rintro rfl; exact hne rfl)⟩
  refine World.ownsRow.kept (row := some g) h hb ?_
  exact .inr (own_not h hg).symm

/-- append(v, x..), as one step of a region that draws its order. -/
theorem step_app {ops : Array Oper} {o : Oper} {a : Act} {K : Act → World → Prop} {Q : Exit → Act → World → Prop} {E : Prop} {w : World} (hgd : o.guard = none) (s x : Operand)
    (ho : o.op = .call { callee := .builtin .append, args := #[s, x], argTypes := #[110, 110] })
    {base : Nat} {v : Value} {l : List UInt8} (hs : a.eval s = v) (hown : Own w base v l) (b : UInt8) (g c : Nat) (hx : a.eval x = .slice (some ⟨g, 0, none⟩) 1 c)
    (hnews : w.heap[g]? = some (.cells #[.int .u8 (b.toNat : Int)] 5 (0, 0))) (hlen : l.length ≤ 100000000) (hbase : base ≤ w.heap.size)
    (h : ∀ g' cap w', Own w' base (.slice (some ⟨g', 0, none⟩) (l.length + 1) cap) (l ++ [b]) → w.grownBy w' v.ownBlock → K (a.put o.dst (.slice (some ⟨g', 0, none⟩) (l.length + 1) cap)) w') :
    if Region.wanted o (yielded ops a.tmps) = true then Oper.wp Tryz.prog o a w K Q else E := by
  obtain ⟨i0, hi, hz0, hz1, hz2⟩ := info_parts Tryz.info5
  refine step_append_lies w hgd s x 110 ho base 5 i0 (.int .u8 0) 1 1 Tryz.underlying110 hi hz0 hz1 hz2 rfl (by decide) v l.length (bs l) hs hown ⟨g, 0, none⟩ 1 c (bs [b]) hx (by simp [bs]) ?_ (bs_one _) (by decide) (by unfold maxLen; omega) (by omega) hbase _ rfl ?_
  · intro j u hu
    have h1 := cell_of_row w g j _ _ _ hnews
    rw [Addr.add_lit, Nat.zero_add, h1]
    simpa [bs] using hu
  · intro g' cap w' h2 h3 _ _
    refine h g' cap w' ?_ h3
    unfold Own
    rw [bs_append, List.length_append]
    exact h2

/-- append(v, s..) of a text, as one step of a region. -/
theorem wp_appt {ops : Array Oper} {rest : List Oper} {o : Oper} {a : Act} {Q : Exit → Act → World → Prop} {w : World} (hgd : o.guard = none) (s x : Operand)
    (ho : o.op = .call { callee := .builtin .append, args := #[s, x], argTypes := #[110, 9] })
    {base : Nat} {v : Value} {l : List UInt8} (hs : a.eval s = v) (hown : Own w base v l) (news : List UInt8) (hx : a.eval x = .string (B news)) (hlen : l.length + news.length ≤ 100000000) (hbase : base ≤ w.heap.size)
    (h : ∀ v' w', Own w' base v' (l ++ news) → w.grownBy w' v.ownBlock → wpList Tryz.prog ops Q rest (a.put o.dst v') w') : wpList Tryz.prog ops Q (o :: rest) a w := by
  obtain ⟨i0, hi, hz0, hz1, hz2⟩ := info_parts Tryz.info5
  have hsz : (B news).size = news.length := by simp [ByteArray.size]
  refine Lib.wpList_append_own_string w hgd s x 110 9 ho base 5 i0 Tryz.underlying110 Tryz.underlying9 hi hz0 hz1 hz2 v l.length (bs l) hs hown (B news) hx (by rw [hsz]; unfold maxLen; omega) (by rw [hsz]; omega) hbase ?_
  intro v' w' h2 h3 _
  refine h v' w' ?_ h3
  unfold Own
  rw [bs_append, List.length_append]
  rw [hsz] at h2
  exact h2

theorem new_cell8 (w : World) (x : Int) (m : Nat) (h : x = ((m % 256 : Nat) : Int)) : (w.alloc (.cells #[.int .u8 x] 5)).heap[w.heap.size]? = some (.cells #[.int .u8 ((UInt8.ofNat m).toNat : Int)] 5 (0, 0)) := by
  subst h
  have := heap_alloc_new w (.cells #[.int .u8 ((m % 256 : Nat) : Int)] 5)
  simpa using this

theorem wrap8 (x : Int) (m : Nat) (h : x = (m : Int)) : IntKind.u8.wrap x = ((m % 256 : Nat) : Int) := by
  subst h
  have : IntKind.u8.wrap (m : Int) = (m : Int) % 256 := IntKind.wrap_u8 _
  rw [this]; omega

/-- A writer behind one more byte. -/
theorem Wr.put1 {w1 : World} {g g' cap : Nat} {l t : List UInt8} {v : Value} {b : UInt8} (hB : Bk w1 g 112 #[v, .string (B t)]) (h : Own w1 (g + 1) (.slice (some ⟨g', 0, none⟩) (l.length + 1) cap) (l ++ [b])) :
    Wr (w1.setCell ⟨g, 0, none⟩ (.slice (some ⟨g', 0, none⟩) (l.length + 1) cap)) g (l ++ [b]) t :=
  ⟨_, hB.set_ 0 _, h.set_ (by omega) 0 _⟩
theorem Wr.cs {w : World} {g : Nat} {l t : List UInt8} (h : Wr w g l t) : ∃ v, w.cell? ⟨g, 0, none⟩ = some v ∧ w.frozen? ⟨g, 0, none⟩ = false ∧ g < w.heap.size ∧ Bk w g 112 #[v, .string (B t)] ∧ Own w (g + 1) v l := by
  obtain ⟨v, hB, hO⟩ := h
  exact ⟨v, hB.cell 0, hB.fr 0, hB.lt, hB, hO⟩
theorem round_keep {w w1 : World} {g : Nat} {v u : Value} {l : List UInt8} {o : Obj} (hO : Own w (g + 1) v l) (gr : (w.alloc o).drew.grownBy w1 v.ownBlock) : KeepT 5 g w (w1.setCell ⟨g, 0, none⟩ u) :=
  (((((KeepT.re _ _ _).al _).dr).grown (hO.alloc _).drew (by omega) gr).st 0 u)
theorem Own.form {w : World} {base : Nat} {v : Value} {l : List UInt8} (h : Own w base v l) : ∃ A n cap, v = .slice A n cap := by
  rcases h.2 with ⟨rfl, _⟩ | ⟨g', cap, cur, rfl, _⟩
  · exact ⟨_, _, _, rfl⟩
  · exact ⟨_, _, _, rfl⟩

set_option maxHeartbeats 2000000 in
theorem number1_any (g : Nat) (l t : List UInt8) (n : Nat) (w : World) (h : Wr w g l t) (hl : l.length ≤ 10000000) :
    Calls Tryz.prog 75 #[.pointer (some ⟨g, 0, none⟩), .int .i64 n, .int .i64 1] w fun e w' => (∃ u, e = .returned u) ∧ Wr w' g (l ++ [UInt8.ofNat n]) t ∧ KeepT 5 g w w' := by
  obtain ⟨v, c0, f0, hlt, hB, hO⟩ := h.cs
  have hw0 : IntKind.i64.wrap 0 = 0 := by decide
  go_enter Tryz.func75, Tryz.ntmps75
  go_wp2_with fail
  refine wp_loop_rounds 2 ?_
  rw [rounds_succ]
  go_wp2_with fail
  go_region_law (refine step_app rfl (.tmp 14) (.tmp 20) rfl (v := v) (base := g + 1) (l := l) (by simp [Act.eval]) (hO.alloc _).drew (UInt8.ofNat n) w.heap.size 1 (by simp [Act.eval]) (new_cell8 _ _ _ (wrap8 _ _ rfl)) (by omega) (by simp; omega) ?_; intro g' cap w1 o1 gr1; have B1 := (hB.alloc _).drew.grown gr1 (own_not hO (by omega)); have c1 := B1.cell 0; have f1 := B1.fr 0)
  all_goals go_wp2
  all_goals rw [rounds_succ]
  all_goals go_wp2
  all_goals exact bodyPost_end (results_none rfl _ _ _) rfl ⟨⟨_, rfl⟩, Wr.put1 B1 o1, round_keep hO gr1⟩

set_option maxHeartbeats 2000000 in
theorem number2_any (g : Nat) (l t : List UInt8) (n : Nat) (w : World) (h : Wr w g l t) (hl : l.length ≤ 10000000) :
    Calls Tryz.prog 75 #[.pointer (some ⟨g, 0, none⟩), .int .i64 n, .int .i64 2] w fun e w' => (∃ u, e = .returned u) ∧ Wr w' g (l ++ [UInt8.ofNat n, UInt8.ofNat (n / 256)]) t ∧ KeepT 5 g w w' := by
  obtain ⟨v, c0, f0, hlt, hB, hO⟩ := h.cs
  have hw0 : IntKind.i64.wrap 0 = 0 := by decide
  have hw8 : IntKind.i64.wrap 8 = 8 := by decide
  go_enter Tryz.func75, Tryz.ntmps75
  go_wp2_with fail
  refine wp_loop_rounds 3 ?_
  rw [rounds_succ]
  go_wp2_with fail
  go_region_law (refine step_app rfl (.tmp 14) (.tmp 20) rfl (v := v) (base := g + 1) (l := l) (by simp [Act.eval]) (hO.alloc _).drew (UInt8.ofNat n) w.heap.size 1 (by simp [Act.eval]) (new_cell8 _ _ _ (wrap8 _ _ rfl)) (by omega) (by simp; omega) ?_; intro g' cap w1 o1 gr1; have B1 := (hB.alloc _).drew.grown gr1 (own_not hO (by omega)); have c1 := B1.cell 0; have f1 := B1.fr 0)
  all_goals go_wp2
  all_goals
    rw [rounds_succ]
    have h2 := Wr.put1 B1 o1
    have b2 := round_keep (u := .slice (some ⟨g', 0, none⟩) (l.length + 1) cap) hO gr1
    generalize w1.setCell ⟨g, 0, none⟩ (.slice (some ⟨g', 0, none⟩) (l.length + 1) cap) = w2 at *
    clear c0 f0 hB hO B1 o1 gr1 c1 f1
    obtain ⟨v2, c0, f0, hlt2, hB, hO⟩ := h2.cs
    have hl2 : (l ++ [UInt8.ofNat n]).length ≤ 100000000 := by simp; omega
    have H2 := Lib.hid (show l ++ [UInt8.ofNat n, UInt8.ofNat (n / 256)] = (l ++ [UInt8.ofNat n]) ++ [UInt8.ofNat (n / 256)] by simp)
    generalize l ++ [UInt8.ofNat n] = l2 at *
    go_wp2_with fail
    go_region_law (refine step_app rfl (.tmp 14) (.tmp 20) rfl (v := v2) (base := g + 1) (l := l2) (by simp [Act.eval]) (hO.alloc _).drew (UInt8.ofNat (n / 256)) w2.heap.size 1 (by simp [Act.eval]) (new_cell8 _ _ _ (wrap8 _ _ (by omega))) (by omega) (by simp; omega) ?_; intro g3 cap3 w3 o3 gr3; have B3 := (hB.alloc _).drew.grown gr3 (own_not hO (by omega)); have c3 := B3.cell 0; have f3 := B3.fr 0)
  all_goals go_wp2
  all_goals rw [rounds_succ]
  all_goals go_wp2
  all_goals refine bodyPost_end (results_none rfl _ _ _) rfl ⟨⟨_, rfl⟩, ?_, b2.tr (round_keep hO gr3)⟩
  all_goals (rw [H2.out]; exact Wr.put1 B3 o3)

set_option maxHeartbeats 2000000 in
theorem wtext_any (g : Nat) (l t x : List UInt8) (w : World) (h : Wr w g l t) (hl : l.length + x.length ≤ 10000000) :
    Calls Tryz.prog 101 #[.pointer (some ⟨g, 0, none⟩), .string (B x)] w fun e w' => (∃ u, e = .returned u) ∧ Wr w' g (l ++ x) t ∧ KeepT 5 g w w' := by
  obtain ⟨v, c0, f0, hlt, hB, hO⟩ := h.cs
  go_enter Tryz.func101, Tryz.ntmps101
  go_wp2_with (at_builtin; refine wp_appt rfl (.tmp 7) (.tmp 8) rfl rfl hO x rfl (by omega) (by omega) ?_; intro v1 w1 o1 gr1; obtain ⟨A1, n1, k1, rfl⟩ := o1.form; have B1 := hB.grown gr1 (own_not hO (by omega)); have c1 := B1.cell 0; have f1 := B1.fr 0)
  refine bodyPost_end (results_none rfl _ _ _) rfl ⟨⟨_, rfl⟩, ⟨_, B1.set_ 0 _, o1.set_ (by omega) 0 _⟩, ((KeepT.re _ _ _).grown hO (by omega) gr1).st 0 _⟩

set_option maxHeartbeats 2000000 in
theorem wflag_any (g : Nat) (l t : List UInt8) (d : Bool) (w : World) (h : Wr w g l t) (hl : l.length ≤ 10000000) :
    Calls Tryz.prog 102 #[.pointer (some ⟨g, 0, none⟩), .bool d] w fun e w' => (∃ u, e = .returned u) ∧ Wr w' g (l ++ flag1 d) t ∧ KeepT 5 g w w' := by
  cases d
  · go_enter Tryz.func102, Tryz.ntmps102
    go_wp2_with (go_at_call 75; refine (number1_any g l t 0 _ h hl).mono ?_; rintro e w1 ⟨⟨u, rfl⟩, h1, k1⟩)
    exact bodyPost_end (results_none rfl _ _ _) rfl ⟨⟨_, rfl⟩, h1, k1⟩
  · go_enter Tryz.func102, Tryz.ntmps102
    go_wp2_with (go_at_call 75; refine (number1_any g l t 1 _ h hl).mono ?_; rintro e w1 ⟨⟨u, rfl⟩, h1, k1⟩)
    first
      | exact bodyPost_ret (results_none rfl _ _ _) rfl ⟨⟨_, rfl⟩, h1, k1⟩
      | exact bodyPost_end (results_none rfl _ _ _) rfl ⟨⟨_, rfl⟩, h1, k1⟩
end Go.Proofs.YtlmlopdakbbbjaaGreatDoor
