/-
  The queue of lists that wait: its methods. Conditions: lengths as written.
-/
import Derived.Test.YtbccpplpfcfboaaMHp
import Derived.Test.YtbccpplpfcfboaaROwn
import Derived.Test.YtbccpplpfcfboaaRIts
namespace Go.Proofs.Ytbccpplpfcfboaa
open Go.RowKit

/-- A method of a value, called through a pointer to it. -/
theorem run_method_value {P : Program} {W : World} {fuel : Nat} {t e : TypeId} {g : Nat} {v : Value} {name : String} {f : FuncId}
    (hi : (P.info? t).map (fun i => (i.methods.find? (·.name == name)).map fun m => (m.path, m.func)) = some (some (#[], some (f, false)))) (hu : P.underlying t = some (.pointer e))
    (hl : (loadVar e ⟨g, 0, none⟩).run P W = .ok v W) : (method (fuel + 1) t (.pointer (some ⟨g, 0, none⟩)) name).run P W = .ok (f, v) W := by
  cases h1 : P.info? t with
  | none => rw [h1] at hi; cases hi
  | some i =>
    rw [h1] at hi
    simp only [Option.map_some, Option.some.injEq] at hi
    cases h2 : i.methods.find? (·.name == name) with
    | none => rw [h2] at hi; cases hi
    | some m =>
      rw [h2] at hi
      simp only [Option.map_some, Option.some.injEq, Prod.mk.injEq] at hi
      obtain ⟨e1, e2⟩ := hi
      have ht : (typeInfo t).run P W = .ok i W := by
        show (match P.info? t with | some i => (pure i : Sem TypeInfo) | none => stuck "no such type").run P W = .ok i W
        rw [h1]; rfl
      have hu2 : (underlying t).run P W = .ok (.pointer e) W := by
        show (match P.underlying t with | some i => (pure i : Sem TypeDesc) | none => stuck "no such type").run P W = .ok (.pointer e) W
        rw [hu]; rfl
      have hw : ∀ n, (Builtin.ssaWrapNilChk_ #[t] t #[.pointer (some ⟨g, 0, none⟩), strVal "", strVal n]).run P W = .ok (.pointer (some ⟨g, 0, none⟩)) W := fun _ => rfl
      have ha : (asAddr (.pointer (some ⟨g, 0, none⟩))).run P W = .ok ⟨g, 0, none⟩ W := rfl
      unfold method
      simp only [Sem.run_bind, ht, Result.andThen_ok, h2, e1, e2, follow, Sem.run_pure, receiverAt, hu2]
      simp [Place.get, Sem.run_bind, Sem.run_pure, Result.andThen_ok, hl, hw, ha]
theorem run_load_queue (W : World) (g : Nat) (v : Value) (h : W.cell? ⟨g, 0, none⟩ = some v) : (loadVar 92 ⟨g, 0, none⟩).run Try.prog W = .ok v W := by
  simp [loadVar, h, go_sem]
theorem meth_len (W : World) (g : Nat) (v : Value) (h : W.cell? ⟨g, 0, none⟩ = some v) : (method 244 99 (.pointer (some ⟨g, 0, none⟩)) "Len").run Try.prog W = .ok (54, v) W :=
  run_method_value (by kernel_rfl) Try.underlying99 (run_load_queue W g v h)
theorem meth_less (W : World) (g : Nat) (v : Value) (h : W.cell? ⟨g, 0, none⟩ = some v) : (method 244 99 (.pointer (some ⟨g, 0, none⟩)) "Less").run Try.prog W = .ok (90, v) W :=
  run_method_value (by kernel_rfl) Try.underlying99 (run_load_queue W g v h)
theorem meth_swap (W : World) (g : Nat) (v : Value) (h : W.cell? ⟨g, 0, none⟩ = some v) : (method 244 99 (.pointer (some ⟨g, 0, none⟩)) "Swap").run Try.prog W = .ok (91, v) W :=
  run_method_value (by kernel_rfl) Try.underlying99 (run_load_queue W g v h)
theorem meth_push (W : World) (g : Nat) : (method 244 99 (.pointer (some ⟨g, 0, none⟩)) "Push").run Try.prog W = .ok (95, .pointer (some ⟨g, 0, none⟩)) W := by kernel_rfl
theorem meth_pop (W : World) (g : Nat) : (method 244 99 (.pointer (some ⟨g, 0, none⟩)) "Pop").run Try.prog W = .ok (94, .pointer (some ⟨g, 0, none⟩)) W := by kernel_rfl

abbrev wcells (a : Wt) : Array Value := #[a.v, .int .i64 (a.i : Int)]
abbrev wv (a : Wt) : Value := .agg (wcells a)
def flatW (l : List Wt) : List Value := l.flatMap fun x => (wcells x).toList
theorem flatW_len (l : List Wt) : (flatW l).length = l.length * 2 := by
  induction l with
  | nil => rfl
  | cons x l ih =>
    rw [show flatW (x :: l) = (wcells x).toList ++ flatW l from rfl, List.length_append, ih]
    simp; omega
theorem flatW_app (l m : List Wt) : flatW (l ++ m) = flatW l ++ flatW m := by simp [flatW]
theorem flatW_at (l : List Wt) (i j : Nat) (x : Wt) (h : l[i]? = some x) (hj : j < 2) : (flatW l)[i * 2 + j]? = (wcells x)[j]? := by
  induction l generalizing i with
  | nil => simp at h
  | cons y l ih =>
    rw [show flatW (y :: l) = (wcells y).toList ++ flatW l from rfl]
    cases i with
    | zero =>
      simp only [List.getElem?_cons_zero, Option.some.injEq] at h
      subst h
      rw [List.getElem?_append_left (by simp; omega)]
      simp
    | succ i =>
      simp only [List.getElem?_cons_succ] at h
      rw [List.getElem?_append_right (by simp; omega), ← ih i h]
      congr 1
      simp
      omega
theorem flatW_set (l : List Wt) (i : Nat) (x : Wt) (r : List Value) (hi : i < l.length) : flatW (l.set i x) ++ r = ((flatW l ++ r).set (i * 2) x.v).set (i * 2 + 1) (.int .i64 (x.i : Int)) := by
  induction l generalizing i with
  | nil => simp at hi
  | cons y l ih =>
    cases i with
    | zero => rfl
    | succ i =>
      have e : ∀ (a : Array Value) (ha : a.size = 2) (m : List Value) (n : Nat) (u : Value), (a.toList ++ m).set ((i + 1) * 2 + n) u = a.toList ++ m.set (i * 2 + n) u := fun a ha m n u => by
        rw [List.set_append_right _ _ (by simp [ha]; omega)]
        congr 2
        simp [ha]; omega
      rw [show flatW ((y :: l).set (i + 1) x) = (wcells y).toList ++ flatW (l.set i x) from rfl, show flatW (y :: l) = (wcells y).toList ++ flatW l from rfl, List.append_assoc, List.append_assoc, ih i (by simpa using hi)]
      have e0 := fun m u => e (wcells y) rfl m 0 u
      simp only [Nat.add_zero] at e0
      rw [e0, e (wcells y) rfl]
/-- What waits reads as its items. -/
def Wok (w : World) (a : Wt) : Prop := Itms w a.v (a.x :: a.r)
theorem Wok.one {w : World} {a : Wt} (h : Wok w a) : a.v.oneCell' = true := by
  obtain ⟨A, cap, e, -⟩ := Itms.form h
  rw [e]; rfl
theorem flatW_one {w : World} {l : List Wt} (h : ∀ a ∈ l, Wok w a) : ∀ u ∈ flatW l, u.oneCell' = true := by
  intro u hu
  obtain ⟨c, hc, hu⟩ := List.mem_flatMap.1 hu
  simp at hu
  rcases hu with rfl | rfl
  · exact (h c hc).one
  · rfl
/-- The block of a queue. -/
def SegW (w : World) (g : Nat) (l : List Wt) (r : List Value) : Prop := Bk w g 97 (flatW l ++ r).toArray
theorem SegW.at_ {w : World} {g : Nat} {l : List Wt} {r : List Value} (h : SegW w g l r) {i : Nat} {x : Wt} (hx : l[i]? = some x) : w.cell? ⟨g, i * 2, none⟩ = some x.v ∧ w.cell? ⟨g, i * 2 + 1, none⟩ = some (.int .i64 (x.i : Int)) := by
  have hi : i < l.length := (List.getElem?_eq_some_iff.1 hx).1
  have hl := flatW_len l
  have k : ∀ j, j < 2 → w.cell? ⟨g, i * 2 + j, none⟩ = (wcells x)[j]? := fun j hj => by
    rw [Bk.cell h, ← flatW_at l i j x hx hj, List.getElem?_toArray, List.getElem?_append_left (by omega)]
  exact ⟨k 0 (by omega), k 1 (by omega)⟩
/-- An element is written here. -/
def putW (w : World) (g o : Nat) (x : Wt) : World := (w.setCell ⟨g, o, none⟩ x.v).setCell ⟨g, o + 1, none⟩ (.int .i64 (x.i : Int))
theorem SegW.put {w : World} {g : Nat} {l : List Wt} {r : List Value} (h : SegW w g l r) {i : Nat} (hi : i < l.length) (x : Wt) : SegW (putW w g (i * 2) x) g (l.set i x) r := by
  unfold SegW
  rw [flatW_set l i x r hi]
  have := (Bk.set_ h (i * 2) x.v).set_ (i * 2 + 1) (.int .i64 (x.i : Int))
  simpa [putW] using this

set_option maxHeartbeats 1000000 in
theorem first_any (w : World) (v : Value) (x : Itm) (r : List Itm) (h : Itms w v (x :: r)) :
    Calls Try.prog 56 #[v] w fun e w' => e = .returned (iv x) ∧ Old w w' := by
  obtain ⟨A, cap, rfl, hc⟩ := h.form
  obtain ⟨b, off, rfl, hx⟩ := h.at_ (i := 0) (x := x) rfl
  rw [Nat.zero_mul, Nat.add_zero] at hx
  have hlt : b < w.heap.size := World.block_lt_of_cell? w ⟨b, _, none⟩ hx.a0
  have hne : ¬ b = w.heap.size := by omega
  obtain ⟨x0, x1, x2, x3, x4, x5, x6⟩ := hx.held
  clear h hx
  go_enter Try.func56, Try.ntmps56
  go_wp2
  exact bodyPost_ret (v := iv x) (by simp [results, Try.results56, go_sem]) rfl ⟨rfl, old_alloc _ _⟩

theorem or2_any (g : Nat) (x0 x1 : Int) (w : World) (h0 : w.cell? ⟨g, 0, none⟩ = some (.int .i64 x0)) (h1 : w.cell? ⟨g, 1, none⟩ = some (.int .i64 x1)) :
    Calls Try.prog 59 #[.slice (some ⟨g, 0, none⟩) 2 2] w fun e w' => e = .returned (.int .i64 (if x0 ≠ 0 then x0 else x1)) ∧ w = w' := by
  go_enter Try.func59, Try.ntmps59
  go_wp2
  refine wp_loop_rounds 3 ?_
  repeat any_goals (rw [rounds_succ]; go_wp2)
  all_goals (go_ret; refine ⟨ret_int ?_, rfl⟩; clear h0 h1; simp_all)
theorem or2_new (g t : Nat) (x0 x1 v : Int) (hv : v = if x0 ≠ 0 then x0 else x1) (W : World) (hg : W.heap.size = g) :
    Calls Try.prog 59 #[.slice (some ⟨g, 0, none⟩) 2 2] (W.alloc (.cells #[.int .i64 x0, .int .i64 x1] t))
      fun e w' => e = .returned (.int .i64 v) ∧ (W.alloc (.cells #[.int .i64 x0, .int .i64 x1] t)) = w' := by
  subst hg hv
  exact or2_any _ _ _ _ (by simp [go_sem]) (by simp [go_sem])
theorem comparei_old (s t : Int) (w : World) :
    Calls Try.prog 62 #[.int .i64 s, .int .i64 t] w fun e w' => e = .returned (.int .i64 (cmpZ s t)) ∧ Old w w' := (comparei_any s t w).mono fun _ _ ⟨h1, h2⟩ => ⟨h1, h2 ▸ Old.re _⟩
theorem Wok.old {w w' : World} {a : Wt} (h : Wok w a) (k : Old w w') : Wok w' a := Itms.old h k
/-- Two lists that wait, boxed. -/
theorem q2_old {w W W' : World} {g1 g2 o1 o2 p1 p2 : Nat} {a b : Wt} (k0 : Old w W ∧ W.cell? ⟨g1, o1, none⟩ = some a.v ∧ W.cell? ⟨g1, p1, none⟩ = some (.int .i64 (a.i : Int)) ∧ W.cell? ⟨g2, o2, none⟩ = some b.v ∧ W.cell? ⟨g2, p2, none⟩ = some (.int .i64 (b.i : Int)) ∧ Wok W a ∧ Wok W b) (k : Old W W') :
    Old w W' ∧ W'.cell? ⟨g1, o1, none⟩ = some a.v ∧ W'.cell? ⟨g1, p1, none⟩ = some (.int .i64 (a.i : Int)) ∧ W'.cell? ⟨g2, o2, none⟩ = some b.v ∧ W'.cell? ⟨g2, p2, none⟩ = some (.int .i64 (b.i : Int)) ∧ Wok W' a ∧ Wok W' b := by
  obtain ⟨h0, h1, h2, h3, h4, h5, h6⟩ := k0
  exact ⟨h0.tr k, cell_old h1 k, cell_old h2 k, cell_old h3 k, cell_old h4 k, h5.old k, h6.old k⟩
theorem q2_a {w W : World} {g1 g2 o1 o2 p1 p2 : Nat} {a b : Wt} (k0 : Old w W ∧ W.cell? ⟨g1, o1, none⟩ = some a.v ∧ W.cell? ⟨g1, p1, none⟩ = some (.int .i64 (a.i : Int)) ∧ W.cell? ⟨g2, o2, none⟩ = some b.v ∧ W.cell? ⟨g2, p2, none⟩ = some (.int .i64 (b.i : Int)) ∧ Wok W a ∧ Wok W b) : Itms W a.v (a.x :: a.r) := k0.2.2.2.2.2.1
theorem q2_b {w W : World} {g1 g2 o1 o2 p1 p2 : Nat} {a b : Wt} (k0 : Old w W ∧ W.cell? ⟨g1, o1, none⟩ = some a.v ∧ W.cell? ⟨g1, p1, none⟩ = some (.int .i64 (a.i : Int)) ∧ W.cell? ⟨g2, o2, none⟩ = some b.v ∧ W.cell? ⟨g2, p2, none⟩ = some (.int .i64 (b.i : Int)) ∧ Wok W a ∧ Wok W b) : Itms W b.v (b.x :: b.r) := k0.2.2.2.2.2.2

set_option maxHeartbeats 4000000 in
theorem wagainst_any (w : World) (a b : Wt) (ha : Wok w a) (hb : Wok w b) :
    Calls Try.prog 92 #[wv a, wv b] w fun e w' => e = .returned (.int .i64 (wcmp a b)) ∧ Old w w' := by
  have HA := Lib.hid ha
  have HB := Lib.hid hb
  clear ha hb
  go_enter Try.func92, Try.ntmps92
  go_wp2_with fail
  have o1 : Old w ((w.alloc (.cells (wcells a) 97)).alloc (.cells (wcells b) 97)) := (old_alloc _ _).al _
  have hS : Old w ((w.alloc (.cells (wcells a) 97)).alloc (.cells (wcells b) 97)) ∧ ((w.alloc (.cells (wcells a) 97)).alloc (.cells (wcells b) 97)).cell? ⟨w.heap.size, 0, none⟩ = some a.v ∧ ((w.alloc (.cells (wcells a) 97)).alloc (.cells (wcells b) 97)).cell? ⟨w.heap.size, 1, none⟩ = some (.int .i64 (a.i : Int)) ∧ ((w.alloc (.cells (wcells a) 97)).alloc (.cells (wcells b) 97)).cell? ⟨w.heap.size + 1, 0, none⟩ = some b.v ∧ ((w.alloc (.cells (wcells a) 97)).alloc (.cells (wcells b) 97)).cell? ⟨w.heap.size + 1, 1, none⟩ = some (.int .i64 (b.i : Int)) ∧ Wok ((w.alloc (.cells (wcells a) 97)).alloc (.cells (wcells b) 97)) a ∧ Wok ((w.alloc (.cells (wcells a) 97)).alloc (.cells (wcells b) 97)) b :=
    ⟨o1, ((new_bk w 97 (wcells a)).alloc (.cells (wcells b) 97)).cell 0, ((new_bk w 97 (wcells a)).alloc (.cells (wcells b) 97)).cell 1, by have := (new_bk (w.alloc (.cells (wcells a) 97)) 97 (wcells b)).cell 0; rwa [World.size_alloc] at this, by have := (new_bk (w.alloc (.cells (wcells a) 97)) 97 (wcells b)).cell 1; rwa [World.size_alloc] at this, HA.out.old o1, HB.out.old o1⟩
  clear o1
  have hV : wcmp a b = if cmpI a.x b.x ≠ 0 then cmpI a.x b.x else cmpZ (a.i : Int) (b.i : Int) := rfl
  have HV := Lib.hid hV
  clear hV HA HB
  go_region_held3 (fun W => Old w W ∧ W.cell? ⟨w.heap.size, 0, none⟩ = some a.v ∧ W.cell? ⟨w.heap.size, 1, none⟩ = some (.int .i64 (a.i : Int)) ∧ W.cell? ⟨w.heap.size + 1, 0, none⟩ = some b.v ∧ W.cell? ⟨w.heap.size + 1, 1, none⟩ = some (.int .i64 (b.i : Int)) ∧ Wok W a ∧ Wok W b) (first | exact q2_old hS (Old.re _).dr | assumption | exact q2_old (by assumption) (by assumption) | exact q2_old (by assumption) (old_alloc _ _))
    (first
      | (go_at_call 56; with_reducible refine (first_any _ a.v a.x a.r (q2_a (by assumption))).mono ?_; rintro e w1 ⟨rfl, h1b⟩)
      | (go_at_call 56; with_reducible refine (first_any _ b.v b.x b.r (q2_b (by assumption))).mono ?_; rintro e w1 ⟨rfl, h1b⟩)
      | (go_at_call 93; with_reducible refine (icmp_any _ _ _).mono ?_; rintro e w1 ⟨rfl, h1b⟩)
      | (go_at_call 62; with_reducible refine (comparei_old _ _ _).mono ?_; rintro e w1 ⟨rfl, h1b⟩)
      | (go_at_call 59; refine (or2_new _ _ _ _ _ HV.out _ (by simp)).mono ?_; rintro e w1 ⟨rfl, rfl⟩))
  rename_i hHeld
  have o2 := hHeld.1
  clear hHeld hS
  go_wp2
  go_ret
  exact ⟨rfl, o2⟩
set_option maxHeartbeats 1000000 in
theorem qlen_any (A : Option Addr) (n cap : Nat) (w : World) :
    Calls Try.prog 54 #[.slice A n cap] w fun e w' => e = .returned (.int .i64 n) ∧ w = w' := by
  go_enter Try.func54, Try.ntmps54
  go_wp2
  go_ret
  exact ⟨rfl, rfl⟩
theorem q2_wa {w W : World} {g1 g2 o1 o2 p1 p2 : Nat} {a b : Wt} (k0 : Old w W ∧ W.cell? ⟨g1, o1, none⟩ = some a.v ∧ W.cell? ⟨g1, p1, none⟩ = some (.int .i64 (a.i : Int)) ∧ W.cell? ⟨g2, o2, none⟩ = some b.v ∧ W.cell? ⟨g2, p2, none⟩ = some (.int .i64 (b.i : Int)) ∧ Wok W a ∧ Wok W b) : Wok W a := k0.2.2.2.2.2.1
theorem q2_wb {w W : World} {g1 g2 o1 o2 p1 p2 : Nat} {a b : Wt} (k0 : Old w W ∧ W.cell? ⟨g1, o1, none⟩ = some a.v ∧ W.cell? ⟨g1, p1, none⟩ = some (.int .i64 (a.i : Int)) ∧ W.cell? ⟨g2, o2, none⟩ = some b.v ∧ W.cell? ⟨g2, p2, none⟩ = some (.int .i64 (b.i : Int)) ∧ Wok W a ∧ Wok W b) : Wok W b := k0.2.2.2.2.2.2
end Go.Proofs.Ytbccpplpfcfboaa
