/-
  stretch: it goes through those cells of a tree, in order, of which a function tells 0. Conditions: as written; the function leaves all as it was.
-/
import Derived.Test.YthanenblcplbhaaMIts
namespace Go.Proofs.Ythanenblcplbhaa
set_option maxRecDepth 100000
open Go.RowKit Go.Shelf

attribute [local go_sem] Oper.semAt_some

/-- What a piece of code that ends as it should must bring about. -/
def Cut (R : Act → World → Prop) : Exit → Act → World → Prop
  | .normal, a, w => R a w
  | _, _, _ => False
theorem wpIn_cut {F : Fence} {n : Nat} {P : Program} {c : Code} {Q : Exit → Act → World → Prop} {a : Act} {w : World} (R : Act → World → Prop) (h : c.wpIn F n P (Cut R) a w) (k : ∀ a' w', R a' w' → Q .normal a' w') : c.wpIn F n P Q a w :=
  wpIn_mono h fun e a' w' h => by cases e <;> first | exact k _ _ h | exact h.elim

/-- The cells that are told. -/
def told (f : Cel → Int) : BT → List Cel
  | .leaf => []
  | .node _ l c r => (if 0 ≤ f c then told f l else []) ++ ((if f c = 0 then [c] else []) ++ (if f c ≤ 0 then told f r else []))
def encC (c : Cel) : Array Value := #[cv c]
/-- The iterator's cells stay. -/
def Mine (T : Nat → TypeId → Bool) (A Z : World) : Prop := ∀ (i : Nat) (o : Obj), A.heap[i]? = some o → mine T i o = true → Z.heap[i]? = some o
theorem Mine.bk {T : Nat → TypeId → Bool} {b : Nat} {A Z : World} {t : TypeId} {cs : Array Value} (h : Mine T A Z) (hb : Bk A b t cs) (hT : T b t = true) : Bk Z b t cs := h b _ hb hT
theorem Mine.of_old {T : Nat → TypeId → Bool} {A Z : World} (h : Old A Z) : Mine T A Z := fun i _ ho _ => (h.block i (Array.getElem?_eq_some_iff.1 ho).1).trans ho
theorem Mine.tr {T : Nat → TypeId → Bool} {A C Z : World} (h : Mine T A C) (k : Mine T C Z) : Mine T A Z := fun i o ho hm => k i o (h i o ho hm) hm
theorem Tre.mine {T : Nat → TypeId → Bool} (hT : ∀ i, T i 67 = true) {w w' : World} (h : Mine T w w') : ∀ {p : Option Addr} {t : BT}, Tre w p t → Tre w' p t
  | _, .leaf, ht => ht
  | _, .node _ _ _ _, ⟨lev, pl, pr, hp, hg, hl, hr⟩ => ⟨lev, pl, pr, hp, h.bk hg (hT _), hl.mine hT h, hr.mine hT h⟩
/-- A function that tells of each cell where it stands: it leaves all as it was, as long as what it looks at stays. -/
structure Whr (T : Nat → TypeId → Bool) (k : Nat) (lb : Array Value) (f : Cel → Int) (w : World) : Prop where
  he : ∀ args w, (callFunc k args).run Try.prog w = .ok (.enter k args) w
  tells : ∀ W, Mine T w W → ∀ (c : Cel) n, CallsIn Fence.wide n Try.prog k (#[cv c] ++ lb) W fun e W' => e = .returned (.int .i64 (f c)) ∧ Old W W'
theorem Whr.mine {T : Nat → TypeId → Bool} {k : Nat} {lb : Array Value} {f : Cel → Int} {w w' : World} (h : Whr T k lb f w) (hm : Mine T w w') : Whr T k lb f w' := ⟨h.he, fun W hW => h.tells W (hm.tr hW)⟩

set_option maxHeartbeats 1000000 in
theorem stretch_in (p : Option Addr) (k : Nat) (lb : Array Value) (n : Nat) (W : World) : CallsIn Fence.wide n Try.prog 40 #[.pointer p, .func (.func k) #[] lb] W fun e w' =>
    e = .returned (.func (.func 50) #[] #[.pointer (some ⟨W.heap.size, 0, none⟩), .pointer (some ⟨W.heap.size + 1, 0, none⟩)]) ∧ w' = (W.alloc (.cells #[.pointer p] 45)).alloc (.cells #[.func (.func k) #[] lb] 54) := by
  refine callsIn_of_wp Try.func40 rfl trivial ?_ rfl
  simp only [Try.ntmps40, List.size_toArray, List.length_cons, List.length_nil, Nat.reduceAdd, Nat.reduceSub, Array.replicate_succ, Array.replicate_zero, List.push_toArray, List.append_toArray, List.nil_append, List.cons_append]
  gi_wp2
  go_ret
  exact ⟨by simp, rfl⟩

set_option maxHeartbeats 8000000 in
theorem stretch_leaf (T : Nat → TypeId → Bool) (f : Cel → Int) (bn bw : Nat) (w : World) (g : Nat) (hbn : Bk w bn 45 #[.pointer none]) :
    Tels Try.prog 50 #[.pointer (some ⟨bn, 0, none⟩), .pointer (some ⟨bw, 0, none⟩)] encC T g (told f .leaf) w := by
  intro n l J Jx W o hsz hJ hJx hY h0
  have oA := old_alloc W (.cells #[.func (.yield l) #[] #[]] 50)
  have cn : (W.alloc (.cells #[.func (.yield l) #[] #[]] 50)).cell? ⟨bn, 0, none⟩ = some (.pointer none) := (hbn.old (o.tr oA)).cell 0
  have HJ := Lib.hid (hJ 0 _ _ (.of_old oA) h0)
  clear hJ hJx hY h0 hbn
  refine callsIn_of_wp_marks Try.func50 rfl trivial ?_ rfl
  simp only [Try.ntmps50, List.size_toArray, List.length_cons, List.length_nil, Nat.reduceAdd, Nat.reduceSub, Array.replicate_succ, Array.replicate_zero, List.push_toArray, List.append_toArray, List.nil_append, List.cons_append]
  gi_wp2_with fail
  generalize W.alloc (.cells #[.func (.yield l) #[] #[]] 50) = W0 at *
  gi_wp2
  exact ⟨_, results_none rfl _ _ _, ⟨_, rfl⟩, .inl HJ.out⟩
/-- The cells of the iterator are the walk's own. -/
structure TMine (T : Nat → TypeId → Bool) : Prop where
  n : ∀ i, T i 67 = true
  p : ∀ i, T i 45 = true
  f : ∀ i, T i 54 = true
  y : ∀ i, T i 50 = true
/-- What the iterator looks at, lies there. -/
structure KS (T : Nat → TypeId → Bool) (f : Cel → Int) (kw : Nat) (lb : Array Value) (b : Nat) (tl : BT) (c : Cel) (tr : BT) (bn bw g l : Nat) (lev : Int) (pl pr : Option Addr) (W : World) : Prop where
  bn : Bk W bn 45 #[.pointer (some ⟨b, 0, none⟩)]
  bw : Bk W bw 54 #[.func (.func kw) #[] lb]
  nd : Bk W b 67 (ndv c lev pl pr)
  by_ : Bk W (g + 2) 50 #[.func (.yield l) #[] #[]]
  tl_ : Tre W pl tl
  tr_ : Tre W pr tr
  wh : Whr T kw lb f W
/-- What stretch promises of a tree. -/
def StrIn (T : Nat → TypeId → Bool) (f : Cel → Int) (kw : Nat) (lb : Array Value) (t : BT) : Prop :=
  ∀ (p : Option Addr) (bn bw : Nat) (w : World) (g : Nat), Bk w bn 45 #[.pointer p] → Bk w bw 54 #[.func (.func kw) #[] lb] → Tre w p t → Whr T kw lb f w → Tels Try.prog 50 #[.pointer (some ⟨bn, 0, none⟩), .pointer (some ⟨bw, 0, none⟩)] encC T g (told f t) w
end Go.Proofs.Ythanenblcplbhaa
