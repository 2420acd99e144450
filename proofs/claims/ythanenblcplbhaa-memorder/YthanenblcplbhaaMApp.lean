/-
  What the code's append functions add: appendText, appendFlag, appendLowFirst, appendHighFirst, appendMarked. Conditions: lengths as written.
-/
import Derived.Test.YthanenblcplbhaaMByt
namespace Go.Proofs.Ythanenblcplbhaa
open Go.RowKit

theorem new_row (w : World) (cs : Array Value) (t : TypeId) : (w.alloc (.cells cs t)).heap[w.heap.size]? = some (.cells cs t (0, 0)) := heap_alloc_new w _

theorem new_row1 (w : World) (x : Int) (b : UInt8) (h : x = (b.toNat : Int)) : (w.alloc (.cells #[.int .u8 x] 5)).heap[w.heap.size]? = some (.cells (bs [b]).toArray 5 (0, 0)) := by
  subst h
  exact heap_alloc_new w _

def flag1 (d : Bool) : List UInt8 := if d then [1] else [0]
theorem flag1_len (d : Bool) : (flag1 d).length = 1 := by cases d <;> rfl

set_option maxHeartbeats 400000 in
theorem appendFlag_any (base : Nat) (v : Value) (l : List UInt8) (d : Bool) (w : World) (h : Own w base v l) (hl : l.length ≤ 1000) (hb : base ≤ w.heap.size) :
    Calls Try.prog 39 #[v, .bool d] w (Gives w base (l ++ flag1 d)) := by
  cases d
  · go_enter Try.func39, Try.ntmps39
    go_wp2_with (at_builtin; refine wp_app rfl _ _ rfl rfl (h.alloc _) [0] w.heap.size 1 1 rfl rfl (new_row _ _ _) (by simp; omega) (by simp; omega) ?_; intro v' w1 ho hbl hb1)
    go_ret
    exact ⟨v', rfl, ho, ((Below.refl _ _).alloc hb _).trans hbl⟩
  · go_enter Try.func39, Try.ntmps39
    go_wp2_with (at_builtin; refine wp_app rfl _ _ rfl rfl (h.alloc _) [1] w.heap.size 1 1 rfl rfl (new_row _ _ _) (by simp; omega) (by simp; omega) ?_; intro v' w1 ho hbl hb1)
    go_ret
    exact ⟨v', rfl, ho, ((Below.refl _ _).alloc hb _).trans hbl⟩

set_option maxHeartbeats 400000 in
theorem appendText_any (base : Nat) (v : Value) (l t : List UInt8) (w : World) (h : Own w base v l) (hl : l.length ≤ 1000) (ht : t.length ≤ 255) (hb : base ≤ w.heap.size) :
    Calls Try.prog 37 #[v, .string (B t)] w (Gives w base (l ++ UInt8.ofNat t.length :: t)) := by
  go_enter Try.func37, Try.ntmps37
  go_wp2_with (first
    | (at_builtin; refine wp_app rfl (.tmp 5) (.tmp 9) rfl rfl (h.alloc _) [UInt8.ofNat t.length] w.heap.size 1 1 rfl rfl (new_row1 _ _ _ (by simp; omega)) (by simp; omega) (by simp; omega) ?_; intro v1 w1 ho hbl hb1)
    | (at_builtin; refine wp_apps rfl (.tmp 11) (.tmp 12) rfl rfl ho t rfl (by simp; omega) hb1 ?_; intro v2 w2 ho2 hbl2 hb2))
  go_ret
  refine ⟨v2, rfl, ?_, (((Below.refl _ _).alloc hb _).trans hbl).trans hbl2⟩
  simpa using ho2


/-- A byte 0 as 0 and 255. -/
def mark1 (b : UInt8) : List UInt8 := if b = 0 then [0, 255] else [b]
/-- A name's bytes, each byte 0 as 0 and 255. -/
def marks (t : List UInt8) : List UInt8 := t.flatMap mark1
theorem marks_snoc (t : List UInt8) (k : Nat) (h : k < t.length) : marks (t.take (k + 1)) = marks (t.take k) ++ mark1 t[k] := by
  unfold marks
  rw [List.take_succ_eq_append_getElem h, List.flatMap_append]
  simp
theorem marks_le (t : List UInt8) : (marks t).length ≤ 2 * t.length := by
  unfold marks
  induction t with
  | nil => simp
  | cons b t ih =>
    simp only [List.flatMap_cons, List.length_append, List.length_cons]
    have : (mark1 b).length ≤ 2 := by unfold mark1; split <;> simp
    omega
theorem marks_take_le (t : List UInt8) (k : Nat) : (marks (t.take k)).length ≤ 2 * t.length := by
  have := marks_le (t.take k)
  have h2 : (t.take k).length ≤ t.length := by simp; omega
  omega

/-- Eight bytes of a number, the lowest one first. -/
def low8 (n : Nat) : List UInt8 := [UInt8.ofNat n, UInt8.ofNat (n / 256), UInt8.ofNat (n / 65536), UInt8.ofNat (n / 16777216), UInt8.ofNat (n / 4294967296), UInt8.ofNat (n / 1099511627776), UInt8.ofNat (n / 281474976710656), UInt8.ofNat (n / 72057594037927936)]
def high8 (n : Nat) : List UInt8 := [UInt8.ofNat (n / 72057594037927936), UInt8.ofNat (n / 281474976710656), UInt8.ofNat (n / 1099511627776), UInt8.ofNat (n / 4294967296), UInt8.ofNat (n / 16777216), UInt8.ofNat (n / 65536), UInt8.ofNat (n / 256), UInt8.ofNat n]

theorem new_rowN (w : World) (x : Int) (m : Nat) (h : x = ((m % 256 : Nat) : Int)) : (w.alloc (.cells #[.int .u8 x] 5)).heap[w.heap.size]? = some (.cells (bs [UInt8.ofNat m]).toArray 5 (0, 0)) :=
  new_row1 w x _ (by rw [h]; simp)

set_option maxHeartbeats 1000000 in
theorem appendLowFirst_any (base : Nat) (v : Value) (l : List UInt8) (n : Nat) (w : World) (h : Own w base v l) (hl : l.length ≤ 1000) (hn : n < 18446744073709551616) (hb : base ≤ w.heap.size) :
    Calls Try.prog 38 #[v, .int .u64 n] w (Gives w base (l ++ low8 n)) := by
  go_enter Try.func38, Try.ntmps38
  go_wp2_with fail
  refine wp_loop_rounds 9 ?_
  rw [rounds_succ]
  go_wp2_with (at_builtin; refine wp_app rfl _ _ rfl rfl (h.alloc _) [UInt8.ofNat n] w.heap.size 1 1 rfl rfl (new_rowN _ _ _ (by omega)) (by simp; omega) (by simp; omega) ?_; intro v1 w1 ho1 hbl1 hb1)
  rw [rounds_succ]
  go_wp2_with (at_builtin; refine wp_app rfl _ _ rfl rfl (ho1.alloc _) [UInt8.ofNat (n / 256)] w1.heap.size 1 1 rfl rfl (new_rowN _ _ _ (by omega)) (by simp; omega) (by simp; omega) ?_; intro v2 w2 ho2 hbl2 hb2)
  rw [rounds_succ]
  go_wp2_with (at_builtin; refine wp_app rfl _ _ rfl rfl (ho2.alloc _) [UInt8.ofNat (n / 65536)] w2.heap.size 1 1 rfl rfl (new_rowN _ _ _ (by omega)) (by simp; omega) (by simp; omega) ?_; intro v3 w3 ho3 hbl3 hb3)
  rw [rounds_succ]
  go_wp2_with (at_builtin; refine wp_app rfl _ _ rfl rfl (ho3.alloc _) [UInt8.ofNat (n / 16777216)] w3.heap.size 1 1 rfl rfl (new_rowN _ _ _ (by omega)) (by simp; omega) (by simp; omega) ?_; intro v4 w4 ho4 hbl4 hb4)
  rw [rounds_succ]
  go_wp2_with (at_builtin; refine wp_app rfl _ _ rfl rfl (ho4.alloc _) [UInt8.ofNat (n / 4294967296)] w4.heap.size 1 1 rfl rfl (new_rowN _ _ _ (by omega)) (by simp; omega) (by simp; omega) ?_; intro v5 w5 ho5 hbl5 hb5)
  rw [rounds_succ]
  go_wp2_with (at_builtin; refine wp_app rfl _ _ rfl rfl (ho5.alloc _) [UInt8.ofNat (n / 1099511627776)] w5.heap.size 1 1 rfl rfl (new_rowN _ _ _ (by omega)) (by simp; omega) (by simp; omega) ?_; intro v6 w6 ho6 hbl6 hb6)
  rw [rounds_succ]
  go_wp2_with (at_builtin; refine wp_app rfl _ _ rfl rfl (ho6.alloc _) [UInt8.ofNat (n / 281474976710656)] w6.heap.size 1 1 rfl rfl (new_rowN _ _ _ (by omega)) (by simp; omega) (by simp; omega) ?_; intro v7 w7 ho7 hbl7 hb7)
  rw [rounds_succ]
  go_wp2_with (at_builtin; refine wp_app rfl _ _ rfl rfl (ho7.alloc _) [UInt8.ofNat (n / 72057594037927936)] w7.heap.size 1 1 rfl rfl (new_rowN _ _ _ (by omega)) (by simp; omega) (by simp; omega) ?_; intro v8 w8 ho8 hbl8 hb8)
  rw [rounds_succ]
  go_wp2
  go_ret
  refine ⟨v8, rfl, by simpa [low8] using ho8, ?_⟩
  exact ((((((((Below.refl _ _).alloc hb _).trans hbl1 |>.alloc hb1 _).trans hbl2 |>.alloc hb2 _).trans hbl3 |>.alloc hb3 _).trans hbl4 |>.alloc hb4 _).trans hbl5 |>.alloc hb5 _).trans hbl6 |>.alloc hb6 _).trans hbl7 |>.alloc hb7 _ |>.trans hbl8

end Go.Proofs.Ythanenblcplbhaa
