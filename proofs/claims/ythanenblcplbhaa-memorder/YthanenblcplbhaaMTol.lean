/-
  stretch at every tree; what is told where a function rises along the cells; the code's own functions that tell where a cell stands. Conditions: as written.
-/
import Derived.Test.YthanenblcplbhaaMSt1
import Derived.Test.YthanenblcplbhaaMSt2
import Derived.Test.YthanenblcplbhaaMSt3
namespace Go.Proofs.Ythanenblcplbhaa
set_option maxRecDepth 100000
open Go.RowKit Go.Shelf

attribute [local go_sem] Oper.semAt_some

theorem stretch_any (T : Nat → TypeId → Bool) (hT : TMine T) (f : Cel → Int) (kw : Nat) (lb : Array Value) (t : BT) : StrIn T f kw lb t := by
  induction t with
  | leaf =>
    intro p bn bw w g hbn hbw ht hw
    obtain rfl : p = none := ht
    exact stretch_leaf T f bn bw w g hbn
  | node b l c r ihl ihr =>
    intro p bn bw w g hbn hbw ht hw
    have hp := ht
    obtain ⟨lev, pl, pr, rfl, -⟩ := hp
    rcases Int.lt_trichotomy (f c) 0 with h | h | h
    · have e : told f (.node b l c r) = told f r := by
        rw [told, if_neg (by omega), if_neg (by omega), if_pos (by omega)]
        rfl
      rw [e]
      exact stretch_neg T hT f kw lb b l c r (Lib.hid h) bn bw w g hbn hbw ht hw ihr
    · have e : told f (.node b l c r) = told f l ++ c :: told f r := by
        rw [told, if_pos (by omega), if_pos h, if_pos (by omega)]
        rfl
      rw [e]
      exact stretch_zero T hT f kw lb b l c r (Lib.hid h) bn bw w g hbn hbw ht hw ihl ihr
    · have e : told f (.node b l c r) = told f l := by
        rw [told, if_pos (by omega), if_neg (by omega), if_neg (by omega)]
        simp
      rw [e]
      exact stretch_pos T hT f kw lb b l c r (Lib.hid h) bn bw w g hbn hbw ht hw ihl

/-- A function that rises along the cells. -/
def Rises (f : Cel → Int) (L : List Cel) : Prop := L.Pairwise fun x y => f x ≤ f y
theorem told_filter (f : Cel → Int) : ∀ t : BT, Rises f t.ino → told f t = t.ino.filter fun c => decide (f c = 0)
  | .leaf, _ => rfl
  | .node b l c r, h => by
    unfold Rises at h
    rw [BT.ino, List.pairwise_append] at h
    obtain ⟨h1, h2, h3⟩ := h
    rw [List.pairwise_cons] at h2
    have il := told_filter f l h1
    have ir := told_filter f r h2.2
    rw [BT.ino, List.filter_append, List.filter_cons, told]
    have nl : f c < 0 → l.ino.filter (fun c => decide (f c = 0)) = [] := fun hc => by
      rw [List.filter_eq_nil_iff]
      intro x hx
      have := h3 x hx c (by simp)
      simp; omega
    have nr : 0 < f c → r.ino.filter (fun c => decide (f c = 0)) = [] := fun hc => by
      rw [List.filter_eq_nil_iff]
      intro x hx
      have := h2.1 x hx
      simp; omega
    rcases Int.lt_trichotomy (f c) 0 with h | h | h
    · rw [if_neg (by omega), if_neg (by omega), if_pos (by omega), nl h, if_neg (by simp; omega), ir]; rfl
    · rw [if_pos (by omega), if_pos h, if_pos (by omega), if_pos (by simp [h]), il, ir]; rfl
    · rw [if_pos (by omega), if_neg (by omega), if_neg (by omega), nr h, if_neg (by simp; omega), il]; simp

/-- Cells that stand in order, each once. -/
def Up (L : List Cel) : Prop := L.Pairwise fun x y => cmpC x y = -1
theorem up_row {x y : Cel} (h : cmpC x y = -1) : cmpT x.row y.row ≤ 0 := by
  rw [cmpC_lt] at h
  rcases h with h | ⟨h, -⟩
  · omega
  · rw [h, cmpT_refl]; omega
theorem cmpT_le_trans {s t u : List UInt8} (h1 : cmpT s t ≤ 0) (h2 : cmpT t u ≤ 0) : cmpT s u ≤ 0 := by
  rcases cmpT_vals s t with a | a | a
  · rcases cmpT_vals t u with b | b | b
    · have := cmpT_trans s t u a b; omega
    · obtain rfl := cmpT_zero _ _ b; omega
    · omega
  · obtain rfl := cmpT_zero _ _ a; exact h2
  · omega
theorem rises_cells (L : List Cel) : Rises (fun _ => 0) L := List.pairwise_of_forall fun _ _ => Int.le_refl _
theorem rises_row {L : List Cel} (h : Up L) (s : List UInt8) : Rises (fun c => cmpT c.row s) L := by
  refine List.Pairwise.imp (fun {x y} hxy => ?_) h
  show cmpT x.row s ≤ cmpT y.row s
  have h1 := up_row hxy
  rcases cmpT_vals x.row s with a | a | a
  · rcases cmpT_vals y.row s with b | b | b <;> omega
  · obtain rfl := cmpT_zero _ _ a
    have := cmpT_neg x.row y.row
    rw [a]; omega
  · rcases cmpT_vals y.row s with b | b | b
    · have := cmpT_le_trans h1 (show cmpT y.row s ≤ 0 by omega); omega
    · have := cmpT_le_trans h1 (show cmpT y.row s ≤ 0 by omega); omega
    · omega
theorem rises_has {L : List Cel} (h : Up L) (c : Cel) : Rises (fun d => cmpC d c) L := by
  refine List.Pairwise.imp (fun {x y} hxy => ?_) h
  show cmpC x c ≤ cmpC y c
  rcases cmpC_vals x c with a | a | a
  · rcases cmpC_vals y c with b | b | b <;> omega
  · have e := cmpC_congr_right (a := x) (b := c) y a
    have := cmpC_neg x y
    omega
  · rcases cmpC_vals y c with b | b | b
    · have := cmpC_lt_trans x y c hxy b; omega
    · have := cmpC_congr_right (a := y) (b := c) x b; omega
    · omega
theorem lt_iff (s t : List UInt8) : cmpT s t = -1 ↔ Op.bytesLess s t = true := by
  unfold cmpT
  by_cases h : Op.bytesLess s t = true
  · simp [h]
  · by_cases h2 : s = t
    · subst h2; simp [h]
    · simp [h, h2]
/-- Where a cell stands to a span of rows. -/
def spanF (from_ to_ : List UInt8) (c : Cel) : Int := if cmpT c.row from_ = -1 then -1 else if to_ ≠ [] ∧ cmpT c.row to_ ≠ -1 then 1 else 0
theorem rises_span {L : List Cel} (h : Up L) (a b : List UInt8) : Rises (spanF a b) L := by
  refine List.Pairwise.imp (fun {x y} hxy => ?_) h
  have h1 := up_row hxy
  have hn : ∀ s, cmpT x.row s ≠ -1 → cmpT y.row s ≠ -1 := fun s hx hy => by
    have := cmpT_le_trans h1 (show cmpT y.row s ≤ 0 by omega)
    rcases cmpT_vals x.row s with q | q | q
    · exact hx q
    · obtain rfl := cmpT_zero _ _ q
      have := cmpT_neg x.row y.row
      omega
    · omega
  unfold spanF
  by_cases q1 : cmpT x.row a = -1
  · rw [if_pos q1]
    split
    · omega
    · split <;> omega
  · rw [if_neg q1, if_neg (hn a q1)]
    by_cases q2 : b ≠ [] ∧ cmpT x.row b ≠ -1
    · rw [if_pos q2, if_pos ⟨q2.1, hn b q2.2⟩]; omega
    · rw [if_neg q2]; split <;> omega
theorem spanF_zero (a b : List UInt8) (c : Cel) : spanF a b c = 0 ↔ cmpT c.row a ≠ -1 ∧ (b = [] ∨ cmpT c.row b = -1) := by
  unfold spanF
  by_cases q1 : cmpT c.row a = -1
  · simp [q1]
  · by_cases q2 : b = []
    · simp [q1, q2]
    · by_cases q3 : cmpT c.row b = -1 <;> simp [q1, q2, q3]

set_option maxHeartbeats 1000000 in
theorem where_cells (T : Nat → TypeId → Bool) (w : World) : Whr T 29 #[] (fun _ => 0) w := by
  refine ⟨enters_of Try.func29 (by kernel_rfl) rfl, fun W _ c n => ?_⟩
  refine callsIn_wide.2 (?_ : Calls Try.prog 29 #[cv c] W fun e W' => e = .returned (.int .i64 0) ∧ Old W W')
  go_enter Try.func29, Try.ntmps29
  go_wp2
  go_ret
  exact ⟨rfl, old_alloc _ _⟩
set_option maxHeartbeats 2000000 in
theorem where_row (T : Nat → TypeId → Bool) (s : List UInt8) (br : Nat) (w : World) (hb : Bk w br 9 #[.string (B s)]) (hT : T br 9 = true) : Whr T 31 #[.pointer (some ⟨br, 0, none⟩)] (fun c => cmpT c.row s) w := by
  refine ⟨enters_of Try.func31 (by kernel_rfl) rfl, fun W hm c n => ?_⟩
  refine callsIn_wide.2 (?_ : Calls Try.prog 31 #[cv c, .pointer (some ⟨br, 0, none⟩)] W fun e W' => e = .returned (.int .i64 (cmpT c.row s)) ∧ Old W W')
  have k0 := new_bk W 31 (cells c)
  have cs : W.cell? ⟨br, 0, none⟩ = some (.string (B s)) := (hm.bk hb hT).cell 0
  have oA := old_alloc W (.cells (cells c) 31)
  have cs2 := cell_old cs oA
  have c0 : (W.alloc (.cells (cells c) 31)).cell? ⟨W.heap.size, 0, none⟩ = some (.string (B c.row)) := k0.cell 0
  go_enter Try.func31, Try.ntmps31
  go_wp2_with (go_at_call 32; refine (compares_any c.row s _).mono ?_; rintro e w1 ⟨rfl, rfl⟩)
  go_ret
  exact ⟨rfl, old_alloc _ _⟩
set_option maxHeartbeats 2000000 in
theorem where_has (T : Nat → TypeId → Bool) (x : Cel) (bx : Nat) (w : World) (hb : Bk w bx 31 (cells x)) (hT : T bx 31 = true) : Whr T 41 #[.pointer (some ⟨bx, 0, none⟩)] (fun d => cmpC d x) w := by
  refine ⟨enters_of Try.func41 (by kernel_rfl) rfl, fun W hm c n => ?_⟩
  refine callsIn_wide.2 (?_ : Calls Try.prog 41 #[cv c, .pointer (some ⟨bx, 0, none⟩)] W fun e W' => e = .returned (.int .i64 (cmpC c x)) ∧ Old W W')
  have k0 := new_bk W 31 (cells c)
  have oA := old_alloc W (.cells (cells c) 31)
  have hx := (hm.bk hb hT).old oA
  have c0 : (W.alloc (.cells (cells c) 31)).cell? ⟨W.heap.size, 0, none⟩ = some (.string (B c.row)) := k0.cell 0
  have c1 : (W.alloc (.cells (cells c) 31)).cell? ⟨W.heap.size, 1, none⟩ = some (.string (B c.col)) := k0.cell 1
  have c2 : (W.alloc (.cells (cells c) 31)).cell? ⟨W.heap.size, 2, none⟩ = some (.int .u64 c.ts) := k0.cell 2
  have c3 : (W.alloc (.cells (cells c) 31)).cell? ⟨W.heap.size, 3, none⟩ = some (.int .u64 c.seq) := k0.cell 3
  have c4 : (W.alloc (.cells (cells c) 31)).cell? ⟨W.heap.size, 4, none⟩ = some (.bool c.del) := k0.cell 4
  have c5 : (W.alloc (.cells (cells c) 31)).cell? ⟨W.heap.size, 5, none⟩ = some (.string (B c.val)) := k0.cell 5
  have d0 : (W.alloc (.cells (cells c) 31)).cell? ⟨bx, 0, none⟩ = some (.string (B x.row)) := hx.cell 0
  have d1 : (W.alloc (.cells (cells c) 31)).cell? ⟨bx, 1, none⟩ = some (.string (B x.col)) := hx.cell 1
  have d2 : (W.alloc (.cells (cells c) 31)).cell? ⟨bx, 2, none⟩ = some (.int .u64 x.ts) := hx.cell 2
  have d3 : (W.alloc (.cells (cells c) 31)).cell? ⟨bx, 3, none⟩ = some (.int .u64 x.seq) := hx.cell 3
  have d4 : (W.alloc (.cells (cells c) 31)).cell? ⟨bx, 4, none⟩ = some (.bool x.del) := hx.cell 4
  have d5 : (W.alloc (.cells (cells c) 31)).cell? ⟨bx, 5, none⟩ = some (.string (B x.val)) := hx.cell 5
  go_enter Try.func41, Try.ntmps41
  go_wp2_with (go_at_call 34; refine (cmp_any c x _).mono ?_; rintro e w1 ⟨rfl, o1⟩)
  go_ret
  exact ⟨rfl, oA.tr o1⟩
set_option maxHeartbeats 4000000 in
theorem where_span (T : Nat → TypeId → Bool) (a z : List UInt8) (ba bz : Nat) (w : World) (ha : Bk w ba 9 #[.string (B a)]) (hz : Bk w bz 9 #[.string (B z)]) (hTa : T ba 9 = true) (hTz : T bz 9 = true) :
    Whr T 30 #[.pointer (some ⟨ba, 0, none⟩), .pointer (some ⟨bz, 0, none⟩)] (spanF a z) w := by
  refine ⟨enters_of Try.func30 (by kernel_rfl) rfl, fun W hm c n => ?_⟩
  refine callsIn_wide.2 (?_ : Calls Try.prog 30 #[cv c, .pointer (some ⟨ba, 0, none⟩), .pointer (some ⟨bz, 0, none⟩)] W fun e W' => e = .returned (.int .i64 (spanF a z c)) ∧ Old W W')
  have k0 := new_bk W 31 (cells c)
  have oA := old_alloc W (.cells (cells c) 31)
  have cs : (W.alloc (.cells (cells c) 31)).cell? ⟨ba, 0, none⟩ = some (.string (B a)) := ((hm.bk ha hTa).old oA).cell 0
  have cz : (W.alloc (.cells (cells c) 31)).cell? ⟨bz, 0, none⟩ = some (.string (B z)) := ((hm.bk hz hTz).old oA).cell 0
  have c0 : (W.alloc (.cells (cells c) 31)).cell? ⟨W.heap.size, 0, none⟩ = some (.string (B c.row)) := k0.cell 0
  go_enter Try.func30, Try.ntmps30
  go_wp2
  all_goals go_ret
  all_goals refine ⟨ret_int ?_, oA⟩
  all_goals clear cs cz c0 k0 oA hm ha hz hTa hTz
  all_goals unfold spanF
  all_goals simp only [lt_iff, ne_eq]
  all_goals simp_all
end Go.Proofs.Ythanenblcplbhaa
