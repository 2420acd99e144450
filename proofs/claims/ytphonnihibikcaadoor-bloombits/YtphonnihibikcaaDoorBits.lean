/-
  Bits of the code. Conditions: the table is laid; lengths as written.
-/
import Derived.Test.YtphonnihibikcaaDoorFull
namespace Go.Proofs.YtphonnihibikcaaDoor
open Go.RowKit

theorem Tryd.info3 : (Tryd.prog.info? 3).map (fun i => (i.zero, i.size, i.bytes)) = some (some (.int .i64 0), 1, 8) := by kernel_rfl
/-- Numbers as cells. -/
def ns (l : List Nat) : List Value := l.map fun (n : Nat) => .int .i64 (n : Int)
theorem ns_length (l : List Nat) : (ns l).length = l.length := by simp [ns]
theorem ns_append (l m : List Nat) : ns (l ++ m) = ns l ++ ns m := by simp [ns]
/-- v is a slice of the call's own, from block base on, that holds just these numbers. -/
def Ints (w : World) (base : Nat) (v : Value) (l : List Nat) : Prop := w.ownsRow base 3 1 v l.length (ns l)
theorem Ints.nil (w : World) (base : Nat) : Ints w base (.slice none 0 0) [] := World.ownsRow_nil _ _ _ _
theorem Ints.alloc {w : World} {base : Nat} {v : Value} {l : List Nat} (h : Ints w base v l) (o : Obj) : Ints (w.alloc o) base v l := World.ownsRow.alloc h o
theorem Ints.set {w : World} {base : Nat} {v : Value} {l : List Nat} (h : Ints w base v l) {a : Addr} (ha : a.block < base) (u : Value) : Ints (w.setCell a u) base v l := ownsRow_setCell_below h ha u

/-- append(v, x). -/
theorem wp_app1 {ops : Array Oper} {rest : List Oper} {o : Oper} {a : Act} {Q : Exit → Act → World → Prop} {w : World} (hgd : o.guard = none) (s x : Operand)
    (ho : o.op = .call { callee := .builtin .append, args := #[s, x], argTypes := #[31, 31] })
    {base : Nat} {v : Value} {l : List Nat} (hs : a.eval s = v) (hown : Ints w base v l) (n g : Nat) (hx : a.eval x = .slice (some ⟨g, 0, none⟩) 1 1)
    (hnews : w.heap[g]? = some (.cells #[.int .i64 (n : Int)] 3 (0, 0))) (hlen : l.length ≤ 100000) (hbase : base ≤ w.heap.size)
    (h : ∀ g' c' w', Ints w' base (.slice (some ⟨g', 0, none⟩) (l.length + 1) c') (l ++ [n]) → Below base w w' → base ≤ w'.heap.size → wpList Tryd.prog ops Q rest (a.put o.dst (.slice (some ⟨g', 0, none⟩) (l.length + 1) c')) w') : wpList Tryd.prog ops Q (o :: rest) a w := by
  obtain ⟨i0, hi, hz0, hz1, hz2⟩ := info_parts Tryd.info3
  refine wpList_append_own w hgd s x 31 ho base 3 i0 (.int .i64 0) 1 8 Tryd.underlying31 hi hz0 hz1 hz2 rfl (by decide) v l.length (ns l) hs hown ⟨g, 0, none⟩ 1 1 [.int .i64 (n : Int)] hx rfl ?_ (fun u hu => by simp at hu; subst hu; rfl) (by unfold maxLen; omega) (by omega) hbase ?_
  · intro j u hu
    have h1 := cell_of_row w g j _ _ _ hnews
    rw [Addr.add_lit, Nat.zero_add, h1]
    simpa using hu
  · intro v' w' h2 h3 _
    have h4 := h2.2
    rcases h4 with ⟨_, hn⟩ | ⟨g', cap, cur, rfl, _⟩
    · simp at hn
    refine h g' cap w' ?_ ((Below.refl base w).grown h3 hbase (fun k hk => (World.ownsRow.lt hown k hk).1)) (Nat.le_trans hbase h3.size)
    unfold Ints
    rw [ns_append, List.length_append]
    exact h2

set_option maxHeartbeats 1000000 in
theorem bits1_any (x : Nat) (ks : List Nat) (hks : ks.length ≤ 1000) (P : Nat) (v : Value) (w : World) (hv : w.heap[P]? = some (.cells #[v] 31 (0, 0))) (hown : Ints w (P + 1) v ks) :
    Calls Tryd.prog 25 #[.int .i64 x, .pointer (some ⟨P, 0, none⟩)] w fun e w' => e = .returned (.bool true) ∧ ∃ v', w'.heap[P]? = some (.cells #[v'] 31 (0, 0)) ∧ Ints w' (P + 1) v' (ks ++ [x]) ∧ Below P w w' := by
  have c1 := cell_of_one hv
  have hP := lt_of_block hv
  go_enter Tryd.func25, Tryd.ntmps25
  go_wp2_with (at_builtin; refine wp_app1 rfl _ _ rfl rfl (hown.alloc _) x w.heap.size rfl (heap_alloc_new _ _) (by omega) (by simp; omega) ?_; intro g1 p1 w1 ho1 hbl1 hb1; have hv1 : w1.heap[P]? = some (.cells #[v] 31 (0, 0)) := (hbl1.block P (by omega)).trans ((Below.heap_alloc _ _ _ hP).trans hv); have c2 := cell_of_one hv1; have c3 := free_of_one hv1)
  go_ret
  refine ⟨rfl, _, one_setCell (by assumption), ?_, ?_⟩
  · exact Ints.set (by assumption) (Nat.lt_succ_self _) _
  · exact (((Below.refl P w).alloc (by omega) _).trans (hbl1.mono (by omega))).setCell (Nat.le_refl _) _

/-- The places of a name. -/
def places (l : List UInt8) (many : Nat) : List Nat := if many = 0 then [] else (List.range 4).map (place l many)
theorem places_take (l : List UInt8) (many i : Nat) (hi : i < 4) : ((List.range 4).map (place l many)).take (i + 1) = ((List.range 4).map (place l many)).take i ++ [place l many i] := by
  rw [List.take_succ_eq_append_getElem (by simpa using hi)]
  simp
theorem tell_bits (l : List UInt8) (hl : l.length ≤ 100000) (many : Nat) (hm : many ≤ 1000000000) (w : World) (P : Nat) (h : Tab w) (hv : w.heap[P]? = some (.cells #[.slice none 0 0] 31 (0, 0))) :
    Calls Tryd.prog 22 #[.string (B l), .int .i64 (many : Int), .func (.func 25) #[] #[.pointer (some ⟨P, 0, none⟩)]] w fun e w' => e = .returned (.tuple #[]) ∧ ∃ v, w'.heap[P]? = some (.cells #[v] 31 (0, 0)) ∧ Ints w' (P + 1) v (places l many) ∧ Below P w w' := by
  by_cases h0 : many = 0
  · subst h0
    refine (tell_none l _ (by decide) _ w).mono ?_
    rintro e w' ⟨rfl, rfl⟩
    exact ⟨rfl, _, hv, Ints.nil _ _, Below.refl _ _⟩
  · unfold places
    rw [if_neg h0]
    refine tell_any l (by omega) many (by omega) (by omega) 25 (enters_of Tryd.func25 (by kernel_rfl) rfl) _
      (fun i w' => ∃ v, w'.heap[P]? = some (.cells #[v] 31 (0, 0)) ∧ Ints w' (P + 1) v (((List.range 4).map (place l many)).take i) ∧ Below P w w')
      (fun w' => ∃ v, w'.heap[P]? = some (.cells #[v] 31 (0, 0)) ∧ Ints w' (P + 1) v ((List.range 4).map (place l many)) ∧ Below P w w') w h ⟨_, hv, Ints.nil _ _, Below.refl _ _⟩ ?_ ?_
    · rintro w' ⟨v, h1, h2, h3⟩
      rw [List.take_of_length_le (by simp)] at h2
      exact ⟨v, h1, h2, h3⟩
    · rintro i hi w' ⟨v, h1, h2, h3⟩
      refine (bits1_any (place l many i) _ (by simp; omega) P v w' h1 h2).mono ?_
      rintro e w2 ⟨rfl, v', h4, h5, h6⟩
      refine ⟨true, rfl, fun _ => ?_, fun hb => by cases hb⟩
      rw [← places_take l many i hi] at h5
      exact ⟨v', h4, h5, h3.trans h6⟩

set_option maxHeartbeats 1000000 in
theorem bits_any (l : List UInt8) (hl : l.length ≤ 100000) (many : Nat) (hm : many ≤ 1000000000) (w : World) (h : Tab w) :
    Calls Tryd.prog 16 #[.string (B l), .int .i64 (many : Int)] w fun e w' => ∃ v, e = .returned v ∧ Ints w' (w.heap.size + 1) v (places l many) ∧ Old w w' := by
  have hmf : ∀ (fn : Fn) (first cap : Array Value) (w : World), (Instr.makeFunc fn first cap).run Tryd.prog w = .ok (.func fn first cap) w := fun _ _ _ _ => rfl
  go_enter Tryd.func16, Tryd.ntmps16
  go_wp2_with fail
  refine (tell_bits l hl many hm _ _ (h.al _) (heap_alloc_new w _)).mono ?_
  rintro e w1 ⟨rfl, v, h1, h2, h3⟩
  have c1 := cell_of_one h1
  go_wp2
  go_ret
  exact ⟨_, rfl, h2, (old_alloc _ _).trans h3⟩
end Go.Proofs.YtphonnihibikcaaDoor
