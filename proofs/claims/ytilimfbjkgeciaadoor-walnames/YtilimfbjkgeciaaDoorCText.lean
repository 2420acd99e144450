/-
  Texts with their lengths and sums: lowFirst, number, Put, Get of the code. Conditions: the table is laid; lengths as written.
-/
import Derived.Test.YtilimfbjkgeciaaDoorCBase
import Derived.Lib.AppendStr
namespace Go.Proofs.YtilimfbjkgeciaaDoor
set_option maxRecDepth 100000
open Go.RowKit

/-- Bytes as cells. -/
def bs (l : List UInt8) : List Value := l.map fun b => .int .u8 (b.toNat : Int)
theorem bs_length (l : List UInt8) : (bs l).length = l.length := by simp [bs]
theorem bs_append (l m : List UInt8) : bs (l ++ m) = bs l ++ bs m := by simp [bs]
theorem bs_one (l : List UInt8) : ∀ u ∈ bs l, u.oneCell' = true := by
  intro u hu
  obtain ⟨_, _, rfl⟩ := List.mem_map.1 hu
  rfl

/-- v is a slice of the call's own, from block base on, that holds just the bytes l. -/
def Own (w : World) (base : Nat) (v : Value) (l : List UInt8) : Prop := w.ownsRow base 5 1 v l.length (bs l)
theorem Tryd.info5 : (Tryd.prog.info? 5).map (fun i => (i.zero, i.size, i.bytes)) = some (some (.int .u8 0), 1, 1) := by kernel_rfl
theorem Own.nil (w : World) (base : Nat) : Own w base (.slice none 0 0) [] := World.ownsRow_nil _ _ _ _
theorem Own.alloc {w : World} {base : Nat} {v : Value} {l : List UInt8} (h : Own w base v l) (o : Obj) : Own (w.alloc o) base v l := World.ownsRow.alloc h o
theorem Own.drew {w : World} {base : Nat} {v : Value} {l : List UInt8} (h : Own w base v l) : Own w.drew base v l := h

/-- append(v, x..): x a slice of new bytes. -/
theorem wp_app {ops : Array Oper} {rest : List Oper} {o : Oper} {a : Act} {Q : Exit → Act → World → Prop} {w : World} (hgd : o.guard = none) (s x : Operand)
    (ho : o.op = .call { callee := .builtin .append, args := #[s, x], argTypes := #[54, 54] })
    {base : Nat} {v : Value} {l : List UInt8} (hs : a.eval s = v) (hown : Own w base v l) (news : List UInt8) (g m c : Nat) (hx : a.eval x = .slice (some ⟨g, 0, none⟩) m c) (hm : m = news.length)
    (hnews : w.heap[g]? = some (.cells (bs news).toArray 5 (0, 0))) (hlen : l.length + news.length ≤ 100000) (hbase : base ≤ w.heap.size)
    (h : ∀ v' w', Own w' base v' (l ++ news) → Below base w w' → base ≤ w'.heap.size → wpList Tryd.prog ops Q rest (a.put o.dst v') w') : wpList Tryd.prog ops Q (o :: rest) a w := by
  obtain ⟨i0, hi, hz0, hz1, hz2⟩ := info_parts Tryd.info5
  subst hm
  refine wpList_append_own w hgd s x 54 ho base 5 i0 (.int .u8 0) 1 1 Tryd.underlying54 hi hz0 hz1 hz2 rfl (by decide) v l.length (bs l) hs hown ⟨g, 0, none⟩ news.length c (bs news) hx (by simp [bs_length]) ?_ (bs_one _) (by unfold maxLen; omega) (by omega) hbase ?_
  · intro j u hu
    have h1 := cell_of_row w g j _ _ _ hnews
    rw [Addr.add_lit, Nat.zero_add, h1]
    simpa using hu
  · intro v' w' h2 h3 _
    refine h v' w' ?_ ((Below.refl base w).grown h3 hbase (fun k hk => (World.ownsRow.lt hown k hk).1)) (Nat.le_trans hbase h3.size)
    unfold Own
    rw [bs_append, List.length_append]
    exact h2

theorem fold_push (l : List UInt8) : ∀ r : ByteArray, ((l.map fun b => (b.toNat : Int)).foldl (fun r n => r.push (UInt8.ofNat n.toNat)) r) = ⟨r.data ++ l.toArray⟩ := by
  induction l with
  | nil => intro r; simp
  | cons b l ih =>
    intro r
    simp only [List.map_cons, List.foldl_cons]
    rw [ih]
    simp [ByteArray.push]

/-- string(v). -/
theorem run_str {w : World} {base : Nat} {v : Value} {l : List UInt8} (h : Own w base v l) : (convert 54 9 v).run Tryd.prog w = .ok (.string (B l)) w := by
  rcases h.2 with ⟨rfl, hn⟩ | ⟨g, cap, cur, rfl, _, hg, hnc, _, hcs, htake⟩
  · have : l = [] := List.eq_nil_of_length_eq_zero hn
    subst this
    rw [run_convert_bytes_string w _ _ _ _ _ _ Tryd.underlying54 Tryd.underlying5 Tryd.underlying9]
    simp [Conv.bytesToString]
    rfl
  · rw [run_convert_bytes_string w _ _ _ _ _ _ Tryd.underlying54 Tryd.underlying5 Tryd.underlying9]
    rw [run_bytesToString w ⟨g, 0, none⟩ l.length cap (l.map fun b => (b.toNat : Int)) ?_]
    · rw [fold_push]
      show Result.ok (Value.string ⟨#[] ++ l.toArray⟩) w = _
      rw [Array.empty_append]
    · have h1 := run_loadCells_list (P := Tryd.prog) w ⟨g, 0, none⟩ (bs l) (fun j u hu => World.ownsRow.cells h (g := g) rfl j u hu)
      rw [bs_length] at h1
      rw [h1]
      simp [bs]

theorem new_row1 (w : World) (x : Int) (b : UInt8) (h : x = (b.toNat : Int)) : (w.alloc (.cells #[.int .u8 x] 5)).heap[w.heap.size]? = some (.cells (bs [b]).toArray 5 (0, 0)) := by
  subst h
  exact heap_alloc_new w _
theorem new_rowN (w : World) (x : Int) (m : Nat) (h : x = ((m % 256 : Nat) : Int)) : (w.alloc (.cells #[.int .u8 x] 5)).heap[w.heap.size]? = some (.cells (bs [UInt8.ofNat m]).toArray 5 (0, 0)) :=
  new_row1 w x _ (by rw [h]; simp)

def low2 (n : Nat) : List UInt8 := [UInt8.ofNat n, UInt8.ofNat (n / 256)]
def low4 (n : Nat) : List UInt8 := [UInt8.ofNat n, UInt8.ofNat (n / 256), UInt8.ofNat (n / 65536), UInt8.ofNat (n / 16777216)]

set_option maxHeartbeats 1000000 in
theorem low2_any (n : Nat) (w : World) :
    Calls Tryd.prog 89 #[.int .u32 n, .int .i64 2] w fun e w' => e = .returned (.string (B (low2 n))) ∧ Old w w' := by
  go_enter Tryd.func89, Tryd.ntmps89
  go_wp2_with fail
  refine wp_loop_rounds 3 ?_
  rw [rounds_succ]
  go_wp2_with (at_builtin; refine wp_app rfl _ _ rfl rfl ((Own.nil _ w.heap.size).alloc _) [UInt8.ofNat n] w.heap.size 1 1 rfl rfl (new_rowN _ _ _ (by omega)) (by simp) (by simp) ?_; intro v1 w1 ho1 hbl1 hb1)
  rw [rounds_succ]
  go_wp2_with (at_builtin; refine wp_app rfl _ _ rfl rfl (ho1.alloc _) [UInt8.ofNat (n / 256)] w1.heap.size 1 1 rfl rfl (new_rowN _ _ _ (by omega)) (by simp) (by simp; omega) ?_; intro v2 w2 ho2 hbl2 hb2)
  rw [rounds_succ]
  have hcv := run_str ho2
  go_wp2
  go_ret
  refine ⟨rfl, ?_⟩
  exact (((Below.refl _ _).alloc (Nat.le_refl _) _).trans hbl1 |>.alloc hb1 _).trans hbl2

set_option maxHeartbeats 1000000 in
theorem low4_any (n : Nat) (hn : n < 4294967296) (w : World) :
    Calls Tryd.prog 89 #[.int .u32 n, .int .i64 4] w fun e w' => e = .returned (.string (B (low4 n))) ∧ Old w w' := by
  go_enter Tryd.func89, Tryd.ntmps89
  go_wp2_with fail
  refine wp_loop_rounds 5 ?_
  rw [rounds_succ]
  go_wp2_with (at_builtin; refine wp_app rfl _ _ rfl rfl ((Own.nil _ w.heap.size).alloc _) [UInt8.ofNat n] w.heap.size 1 1 rfl rfl (new_rowN _ _ _ (by omega)) (by simp) (by simp) ?_; intro v1 w1 ho1 hbl1 hb1)
  rw [rounds_succ]
  go_wp2_with (at_builtin; refine wp_app rfl _ _ rfl rfl (ho1.alloc _) [UInt8.ofNat (n / 256)] w1.heap.size 1 1 rfl rfl (new_rowN _ _ _ (by omega)) (by simp) (by simp; omega) ?_; intro v2 w2 ho2 hbl2 hb2)
  rw [rounds_succ]
  go_wp2_with (at_builtin; refine wp_app rfl _ _ rfl rfl (ho2.alloc _) [UInt8.ofNat (n / 65536)] w2.heap.size 1 1 rfl rfl (new_rowN _ _ _ (by omega)) (by simp) (by simp; omega) ?_; intro v3 w3 ho3 hbl3 hb3)
  rw [rounds_succ]
  go_wp2_with (at_builtin; refine wp_app rfl _ _ rfl rfl (ho3.alloc _) [UInt8.ofNat (n / 16777216)] w3.heap.size 1 1 rfl rfl (new_rowN _ _ _ (by omega)) (by simp) (by simp; omega) ?_; intro v4 w4 ho4 hbl4 hb4)
  rw [rounds_succ]
  have hcv := run_str ho4
  go_wp2
  go_ret
  refine ⟨rfl, ?_⟩
  exact (((((Below.refl _ _).alloc (Nat.le_refl _) _).trans hbl1 |>.alloc hb1 _).trans hbl2 |>.alloc hb2 _).trans hbl3 |>.alloc hb3 _).trans hbl4

/-- The number whose bytes these are, the lowest one first. -/
def lowV (l : List UInt8) : Nat := l.foldr (fun b n => b.toNat + 256 * n) 0
theorem lowV_lt (l : List UInt8) : lowV l < 256 ^ l.length := by
  induction l with
  | nil => simp [lowV]
  | cons b l ih =>
    have hb := b.toNat_lt
    simp only [lowV, List.foldr_cons, List.length_cons, Nat.pow_succ] at *
    omega
theorem lowV_snoc (l : List UInt8) (b : UInt8) : lowV (l ++ [b]) = lowV l + 256 ^ l.length * b.toNat := by
  induction l with
  | nil => simp [lowV]
  | cons c l ih =>
    simp only [lowV, List.cons_append, List.foldr_cons, List.length_cons, Nat.pow_succ] at *
    rw [ih, Nat.mul_add, ← Nat.add_assoc]
    congr 1
    rw [Nat.mul_comm (256 ^ l.length) 256, Nat.mul_assoc]
theorem lowV_inj : ∀ {l m : List UInt8}, l.length = m.length → lowV l = lowV m → l = m
  | [], [], _, _ => rfl
  | b :: l, c :: m, hl, h => by
    have hb := b.toNat_lt
    have hc := c.toNat_lt
    simp only [lowV, List.foldr_cons] at h
    have h1 : b.toNat = c.toNat := by omega
    have h2 : lowV l = lowV m := by unfold lowV; omega
    rw [UInt8.toNat_inj.1 h1, lowV_inj (by simpa using hl) h2]
theorem lowV_low2 (n : Nat) (h : n < 65536) : lowV (low2 n) = n := by simp [lowV, low2]; omega
theorem lowV_low4 (n : Nat) (h : n < 4294967296) : lowV (low4 n) = n := by simp [lowV, low4]; omega

theorem pow8 (k : Nat) : (2 : Nat) ^ (8 * k) = 256 ^ k := by rw [Nat.pow_mul]
theorem or_low (a b k : Nat) (ha : a < 256 ^ k) (hb : b < 256) (hk : k < 4) :
    bits BinOp.or IntKind.u32 (a : Int) (((b : Int) % 4294967296 * 2 ^ (8 * k)) % 4294967296) = ((a + 256 ^ k * b : Nat) : Int) := by
  have h7 : 256 ^ k ≤ 256 ^ 3 := Nat.pow_le_pow_right (by omega) (by omega)
  have h1 : b * 256 ^ k ≤ 255 * 256 ^ 3 := Nat.mul_le_mul (by omega) h7
  rw [Int.emod_eq_of_lt (a := (b : Int)) (by omega) (by omega)]
  have e : ((b : Int) * 2 ^ (8 * k)) = ((b * 256 ^ k : Nat) : Int) := by
    rw [← pow8]; simp
  rw [e, Int.emod_eq_of_lt (by omega) (by omega), or_u32 _ _ (by omega) (by omega)]
  congr 1
  rw [Nat.or_comm, Nat.mul_comm b, ← pow8, ← Nat.two_pow_add_eq_or_of_lt (by rw [pow8]; exact ha), Nat.add_comm]

set_option maxHeartbeats 1000000 in
theorem number_any (t : List UInt8) (w : World) (hlen : t.length ≤ 4) :
    Calls Tryd.prog 86 #[.string (B t)] w fun r w' => r = .returned (.int .u32 (lowV t)) ∧ w = w' := by
  go_enter Tryd.func86, Tryd.ntmps86
  go_wp2
  go_loop [3, 7] (fun n i => ∃ k : Nat, k ≤ t.length ∧ i = .int .i64 k ∧ n = .int .u32 (lowV (t.take k))) (fun _ i => t.length - (intOf i).toNat)
  case atStart => exact ⟨0, Nat.zero_le _, rfl, rfl⟩
  case round =>
    obtain ⟨k, hk, rfl, rfl⟩ := hrel
    by_cases hlt : k < t.length
    · go_wp2
      go_round
      case rel =>
        refine ⟨k + 1, by omega, by go_num, ?_⟩
        congr 1
        have hl1 := lowV_lt (t.take k)
        have hl2 : (t.take k).length = k := by simp; omega
        rw [hl2] at hl1
        refine (or_low _ (t[k].toNat) k hl1 t[k].toNat_lt (by omega)).trans ?_
        rw [List.take_succ_eq_append_getElem hlt, lowV_snoc, hl2]
      case measure => simp [intOf]; omega
    · go_wp2
      go_ret
      refine ⟨ret_int ?_, rfl⟩
      rw [List.take_of_length_le (by omega)]
end Go.Proofs.YtilimfbjkgeciaaDoor
