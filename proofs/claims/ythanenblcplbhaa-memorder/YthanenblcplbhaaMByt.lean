/-
  Bytes that a call gathers by append, and what they are as a text: the words 'Own' and 'Gives', and the laws of append at this program's types. No conditions but those written.
-/
import Derived.Test.YthanenblcplbhaaMCmp
import Derived.Lib.AppendStr
namespace Go.Proofs.Ythanenblcplbhaa
open Go.RowKit

/-- Bytes as cells. -/
def bs (l : List UInt8) : List Value := l.map fun b => .int .u8 (b.toNat : Int)
theorem bs_length (l : List UInt8) : (bs l).length = l.length := by simp [bs]
theorem bs_append (l m : List UInt8) : bs (l ++ m) = bs l ++ bs m := by simp [bs]
theorem bs_strCells (l : List UInt8) : Lib.strCells (B l) = bs l := rfl
theorem bs_one (l : List UInt8) : ∀ u ∈ bs l, u.oneCell' = true := by
  intro u hu
  obtain ⟨_, _, rfl⟩ := List.mem_map.1 hu
  rfl

/-- v is a slice of the call's own, from block base on, that holds just the bytes l. -/
def Own (w : World) (base : Nat) (v : Value) (l : List UInt8) : Prop := w.ownsRow base 5 1 v l.length (bs l)
/-- A call that hands back such a slice, and leaves all below base alone. -/
def Gives (w : World) (base : Nat) (l : List UInt8) (e : Ending) (w' : World) : Prop := ∃ v', e = .returned v' ∧ Own w' base v' l ∧ Below base w w'

theorem Try.info5 : (Try.prog.info? 5).map (fun i => (i.zero, i.size, i.bytes)) = some (some (.int .u8 0), 1, 1) := by kernel_rfl

theorem Own.nil (w : World) (base : Nat) : Own w base (.slice none 0 0) [] := World.ownsRow_nil _ _ _ _
theorem Own.alloc {w : World} {base : Nat} {v : Value} {l : List UInt8} (h : Own w base v l) (o : Obj) : Own (w.alloc o) base v l := World.ownsRow.alloc h o
theorem Own.drew {w : World} {base : Nat} {v : Value} {l : List UInt8} (h : Own w base v l) : Own w.drew base v l := h
theorem Own.below {w w' : World} {base B : Nat} {v : Value} {l : List UInt8} (h : Own w base v l) (hb : Below B w w') (hB : w.heap.size ≤ B) : Own w' base v l := by
  refine World.ownsRow.kept (row := none) h ⟨hb.os, hb.tape, hb.output, ?_, fun i hi _ => hb.block i (by omega)⟩ ?_
  · have := hb.size; omega
  · cases hv : v.ownBlock
    · exact .inl rfl
    · exact .inr (by simp)

/-- append(v, x..): x a slice of new bytes. -/
theorem wp_app {ops : Array Oper} {rest : List Oper} {o : Oper} {a : Act} {Q : Exit → Act → World → Prop} {w : World} (hgd : o.guard = none) (s x : Operand)
    (ho : o.op = .call { callee := .builtin .append, args := #[s, x], argTypes := #[56, 56] })
    {base : Nat} {v : Value} {l : List UInt8} (hs : a.eval s = v) (hown : Own w base v l) (news : List UInt8) (g m c : Nat) (hx : a.eval x = .slice (some ⟨g, 0, none⟩) m c) (hm : m = news.length)
    (hnews : w.heap[g]? = some (.cells (bs news).toArray 5 (0, 0))) (hlen : l.length + news.length ≤ 100000) (hbase : base ≤ w.heap.size)
    (h : ∀ v' w', Own w' base v' (l ++ news) → Below base w w' → base ≤ w'.heap.size → wpList Try.prog ops Q rest (a.put o.dst v') w') : wpList Try.prog ops Q (o :: rest) a w := by
  obtain ⟨i0, hi, hz0, hz1, hz2⟩ := info_parts Try.info5
  subst hm
  refine wpList_append_own w hgd s x 56 ho base 5 i0 (.int .u8 0) 1 1 Try.underlying56 hi hz0 hz1 hz2 rfl (by decide) v l.length (bs l) hs hown ⟨g, 0, none⟩ news.length c (bs news) hx (by simp [bs_length]) ?_ (bs_one _) (by unfold maxLen; omega) (by omega) hbase ?_
  · intro j u hu
    have h1 := cell_of_row w g j _ _ _ hnews
    rw [Addr.add_lit, Nat.zero_add, h1]
    simpa using hu
  · intro v' w' h2 h3 _
    refine h v' w' ?_ ((Below.refl base w).grown h3 hbase (fun k hk => (World.ownsRow.lt hown k hk).1)) (Nat.le_trans hbase h3.size)
    unfold Own
    rw [bs_append, List.length_append]
    exact h2

/-- append(v, s..): s a text. -/
theorem wp_apps {ops : Array Oper} {rest : List Oper} {o : Oper} {a : Act} {Q : Exit → Act → World → Prop} {w : World} (hgd : o.guard = none) (s x : Operand)
    (ho : o.op = .call { callee := .builtin .append, args := #[s, x], argTypes := #[56, 9] })
    {base : Nat} {v : Value} {l : List UInt8} (hs : a.eval s = v) (hown : Own w base v l) (news : List UInt8) (hx : a.eval x = .string (B news)) (hlen : l.length + news.length ≤ 100000) (hbase : base ≤ w.heap.size)
    (h : ∀ v' w', Own w' base v' (l ++ news) → Below base w w' → base ≤ w'.heap.size → wpList Try.prog ops Q rest (a.put o.dst v') w') : wpList Try.prog ops Q (o :: rest) a w := by
  obtain ⟨i0, hi, hz0, hz1, hz2⟩ := info_parts Try.info5
  have hsz : (B news).size = news.length := by simp [ByteArray.size]
  refine Lib.wpList_append_own_string w hgd s x 56 9 ho base 5 i0 Try.underlying56 Try.underlying9 hi hz0 hz1 hz2 v l.length (bs l) hs hown (B news) hx (by rw [hsz]; unfold maxLen; omega) (by rw [hsz]; omega) hbase ?_
  intro v' w' h2 h3 _
  refine h v' w' ?_ ((Below.refl base w).grown h3 hbase (fun k hk => (World.ownsRow.lt hown k hk).1)) (Nat.le_trans hbase h3.size)
  unfold Own
  rw [bs_append, List.length_append]
  rw [hsz] at h2
  exact h2

theorem fold_push (l : List UInt8) : ∀ r : ByteArray, ((l.map fun b => (b.toNat : Int)).foldl (fun r n => r.push (UInt8.ofNat n.toNat)) r) = ⟨r.data ++ l.toArray⟩ := by
  induction l with
  | nil => intro r; simp
  | cons b l ih =>
    intro r
    simp only [List.map_cons, List.foldl_cons]
    rw [ih]
    simp [ByteArray.push]

/-- string(v). -/
theorem run_str {w : World} {base : Nat} {v : Value} {l : List UInt8} (h : Own w base v l) : (convert 56 9 v).run Try.prog w = .ok (.string (B l)) w := by
  rcases h.2 with ⟨rfl, hn⟩ | ⟨g, cap, cur, rfl, _, hg, hnc, _, hcs, htake⟩
  · have : l = [] := List.eq_nil_of_length_eq_zero hn
    subst this
    rw [run_convert_bytes_string w _ _ _ _ _ _ Try.underlying56 Try.underlying5 Try.underlying9]
    simp [Conv.bytesToString]
    rfl
  · rw [run_convert_bytes_string w _ _ _ _ _ _ Try.underlying56 Try.underlying5 Try.underlying9]
    rw [run_bytesToString w ⟨g, 0, none⟩ l.length cap (l.map fun b => (b.toNat : Int)) ?_]
    · rw [fold_push]
      show Result.ok (Value.string ⟨#[] ++ l.toArray⟩) w = _
      rw [Array.empty_append]
    · have h1 := run_loadCells_list (P := Try.prog) w ⟨g, 0, none⟩ (bs l) (fun j u hu => World.ownsRow.cells h (g := g) rfl j u hu)
      rw [bs_length] at h1
      rw [h1]
      simp [bs]
end Go.Proofs.Ythanenblcplbhaa
