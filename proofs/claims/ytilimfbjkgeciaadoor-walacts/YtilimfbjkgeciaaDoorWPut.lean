/-
  Texts put one behind the other: what All tells of a beginning of them; put of the code. Conditions: the table is laid; lengths as written.
-/
import Derived.Test.YtilimfbjkgeciaaDoorCH
import Derived.Test.YtilimfbjkgeciaaDoorPBld
import Derived.Test.YtilimfbjkgeciaaDoorWShelf
namespace Go.Proofs.YtilimfbjkgeciaaDoor
set_option maxRecDepth 100000
open Go.RowKit Go.Shelf

/-- Texts that were put one behind the other. -/
def puts (l : List (List UInt8)) : List UInt8 := (l.map c_put).flatten
theorem puts_snoc (l : List (List UInt8)) (k : Nat) (h : k < l.length) : puts (l.take (k + 1)) = puts (l.take k) ++ c_put l[k] := by
  unfold puts
  rw [List.take_succ_eq_append_getElem h, List.map_append, List.flatten_append]
  simp
theorem getV_cut (t r : List UInt8) (k : Nat) (h : t.length ≤ 65535) (hk : k < 6 + t.length) : ¬ (getV ((c_put t ++ r).take k)).2.2 = 0 := by
  have hp := put_length t
  have hl : ((c_put t ++ r).take k).length = k := by rw [List.length_take, List.length_append]; omega
  unfold getV
  by_cases h0 : (c_put t ++ r).take k = []
  · rw [if_pos h0]; decide
  rw [if_neg h0]
  by_cases h6 : ((c_put t ++ r).take k).length < 6
  · rw [if_pos h6]; decide
  rw [if_neg h6]
  have e2 : ((c_put t ++ r).take k).take 2 = low2 t.length := by
    rw [List.take_take, Nat.min_eq_left (by omega)]
    simp [c_put, low2]
  rw [e2, lowV_low2 _ (by omega), if_pos (by omega)]
  decide
theorem allV_put (t r : List UInt8) (k : Nat) (h : t.length ≤ 65535) (hk : 6 + t.length ≤ k) : allV ((c_put t ++ r).take k) = t :: allV (r.take (k - (6 + t.length))) := by
  have hp := put_length t
  have e : (c_put t ++ r).take k = c_put t ++ r.take (k - (6 + t.length)) := by
    rw [List.take_append, List.take_of_length_le (by omega), hp]
  have hg := getV_put t (r.take (k - (6 + t.length))) h
  rw [e, allV_yes (by rw [hg]), hg]
  congr 2
  rw [← hp, List.drop_left]
theorem puts_cons (t : List UInt8) (l : List (List UInt8)) : puts (t :: l) = c_put t ++ puts l := by simp [puts]

/-- Want texts are whole. -/
def Whole (l : List (List UInt8)) (k want : Nat) : Prop := allV ((puts l).take k) = l.take want ++ allV ((puts (l.drop want)).take (k - took (l.take want)))
theorem took_take (l : List (List UInt8)) (k : Nat) (h : k < l.length) : took (l.take (k + 1)) = took (l.take k) + (6 + l[k].length) := by
  rw [List.take_succ_eq_append_getElem h, took_snoc]
theorem Whole.go {l : List (List UInt8)} {k want : Nat} (h : Whole l k want) (hw : want < l.length) (ht : l[want].length ≤ 65535) (hk : took (l.take want) + (6 + l[want].length) ≤ k) : Whole l k (want + 1) := by
  unfold Whole at *
  rw [h, List.drop_eq_getElem_cons hw, puts_cons, allV_put _ _ _ ht (by omega), took_take l want hw, List.take_succ_eq_append_getElem hw, List.append_assoc]
  rw [show k - took (l.take want) - (6 + l[want].length) = k - (took (l.take want) + (6 + l[want].length)) by omega]
  rfl
theorem Whole.stop {l : List (List UInt8)} {k want : Nat} (h : Whole l k want) (hw : want < l.length) (ht : l[want].length ≤ 65535) (hk : ¬ took (l.take want) + (6 + l[want].length) ≤ k) : allV ((puts l).take k) = l.take want := by
  unfold Whole at h
  rw [h, List.drop_eq_getElem_cons hw, puts_cons, allV_no (getV_cut _ _ _ ht (by omega)), List.append_nil]
theorem Whole.done {l : List (List UInt8)} {k want : Nat} (h : Whole l k want) (hw : l.length ≤ want) : allV ((puts l).take k) = l.take want := by
  unfold Whole at h
  rw [h, List.drop_of_length_le hw]
  have : allV (List.take (k - took (List.take want l)) (puts [])) = [] := by
    rw [show puts [] = [] from rfl, List.take_nil]
    exact allV_no (by decide)
  rw [this, List.append_nil]
theorem Whole.zero (l : List (List UInt8)) (k : Nat) : Whole l k 0 := by
  unfold Whole
  simp [took]

theorem row_old {w w' : World} {base : Nat} {e : TypeId} {k n : Nat} {v : Value} {vs : List Value} (h : w.ownsRow base e k v n vs) (o : Old w w') : w'.ownsRow base e k v n vs := by
  refine ⟨h.1, ?_⟩
  rcases h.2 with h1 | ⟨gg, cap, cur, hv, hb, hg, rest⟩
  · exact .inl h1
  · exact .inr ⟨gg, cap, cur, hv, hb, (o.block _ (Array.getElem?_eq_some_iff.1 hg).1).trans hg, rest⟩
def wideT (t : List UInt8) : Bool := decide (65535 < t.length)
/-- What put answers. -/
def jE (l : List (List UInt8)) : Nat := if l.any wideT = true then 71 else 0
def jS (l : List (List UInt8)) : List UInt8 := if l.any wideT = true then [] else puts l
theorem puts_len (l : List (List UInt8)) : (puts l).length = took l := by
  induction l with
  | nil => rfl
  | cons t l ih => rw [puts_cons, List.length_append, put_length, ih]; simp [took]
theorem puts_append (l m : List (List UInt8)) : puts (l ++ m) = puts l ++ puts m := by simp [puts]
theorem puts_le (l : List (List UInt8)) (h : ∀ t ∈ l, t.length ≤ 65535) : (puts l).length ≤ 65541 * l.length := by
  rw [puts_len]
  induction l with
  | nil => simp [took]
  | cons t l ih =>
    have h1 := h t (by simp)
    have h2 := ih (fun x hx => h x (by simp [hx]))
    simp [took] at h2 ⊢
    omega
theorem wide_not {t : List UInt8} (h : wideT t = false) : t.length ≤ 65535 := by
  unfold wideT at h
  have := of_decide_eq_false h
  omega
theorem bld_old {T e : TypeId} {B0 b : Nat} {cs : List Value} {w w' : World} (h : Lib.IsBuilder T e B0 b cs w) (o : Old w w') : Lib.IsBuilder T e B0 b cs w' := by
  have key : ∀ p, Lib.BuilderAt T e B0 b p cs w → Lib.BuilderAt T e B0 b p cs w' := by
    rintro p ⟨hB, v, hb, hown, hne⟩
    refine ⟨hB, v, ?_, row_old hown o, hne⟩
    have hlt : b < w.heap.size := (Array.getElem?_eq_some_iff.1 hb).1
    rw [o.block b hlt]
    exact hb
  rcases h with h | h
  · exact .inl (key _ h)
  · exact .inr (key _ h)
theorem str_cells (l : List UInt8) : Lib.strCells (B l) = Lib.byteCells l := rfl
theorem Old.bel {w w1 w2 : World} (h : Old w w1) (k : Below w.heap.size w1 w2) : Old w w2 := h.trans k

set_option maxHeartbeats 4000000 in
theorem jput_any (l : List (List UInt8)) (A : Option Addr) (cap : Nat) (w : World) (ht : Tab w) (h : Strs w A cap l) (hml : l.length ≤ 1000) (hsm : ∀ t ∈ l, t.length ≤ 1000000) :
    Calls Tryd.prog 67 #[.slice A l.length cap] w fun e w' => e = .returned (.tuple #[.string (B (jS l)), .int .i64 (jE l : Nat)]) ∧ Old w w' := by
  obtain ⟨S, hS⟩ : ∃ S, S = jS l := ⟨_, rfl⟩
  obtain ⟨E, hE⟩ : ∃ E, E = jE l := ⟨_, rfl⟩
  rw [← hS, ← hE]
  have HS := Lib.hid hS
  have HE := Lib.hid hE
  clear hS hE
  go_enter Tryd.func67, Tryd.ntmps67
  go_wp2_with fail
  go_loopw [11] (fun i wr => ∃ k : Nat, k ≤ l.length ∧ i = .int .i64 k ∧ Lib.IsBuilder 110 5 w.heap.size w.heap.size (Lib.byteCells (puts (l.take k))) wr ∧ Old w wr ∧ Hid ((l.take k).any wideT = false)) (fun i _ => l.length - (intOf i).toNat)
  case atStart => exact ⟨0, Nat.zero_le _, rfl, Lib.fresh_isBuilder _ _ _, old_alloc _ _, Lib.hid rfl⟩
  case round =>
    obtain ⟨k, hk, rfl, hB, ho, HA⟩ := hrel
    by_cases hlt : k < l.length
    · obtain ⟨-, b, off, rfl, hc0⟩ := (h.old ho).at_ k hlt
      have hc := hsm l[k] (List.getElem_mem hlt)
      have HT := Lib.hid (puts_snoc l k hlt)
      have HM := Lib.hid (fun (e : wideT l[k] = true) => (show l.any wideT = true by
        rw [List.any_eq_true]; exact ⟨l[k], List.getElem_mem hlt, e⟩))
      have HY := Lib.hid (fun (e : wideT l[k] = false) => (show (l.take (k + 1)).any wideT = false by
        rw [List.take_succ_eq_append_getElem hlt, List.any_append, HA.out]; simp [e]))
      have hpl : (puts (l.take k)).length ≤ 65541 * 1000 := by
        have h1 := puts_le (l.take k) (fun t hx => wide_not (by
          have := HA.out
          rw [List.any_eq_false] at this
          simpa using this t hx))
        have h2 : (l.take k).length ≤ 1000 := by rw [List.length_take]; omega
        omega
      generalize l[k] = t at *
      by_cases hw : 65535 < t.length
      · have HX := Lib.hid (HM.out (by unfold wideT; simpa using hw))
        go_wp2_with (go_at_call 83; refine (put_no t hw hc _).mono ?_; rintro e w2 ⟨rfl, rfl⟩)
        go_ret2
        exact ⟨by rw [HS.out, HE.out]; unfold jS jE; rw [HX.out]; rfl, ho⟩
      · have HX := Lib.hid (HY.out (by unfold wideT; simpa using hw))
        have D := put_yes t (by omega) wr (ht.old ho)
        go_wp2_with (go_at_call 83; refine D.mono ?_; rintro e w2 ⟨rfl, o2⟩; refine Hid.out ?_)
        have hpt := put_length t
        have F3 := wstr_any w.heap.size w.heap.size (Lib.byteCells (puts (l.take k))) (B (c_put t)) w2 (bld_old hB o2) (by rw [Lib.byteCells_length]; simp only [ByteArray.size, List.size_toArray]; omega) (ho.tr o2).size
        refine Lib.hid ?_
        go_wp2_with (go_at_call 84; refine F3.mono ?_; rintro e w4 ⟨rfl, h4, b4⟩; refine Hid.out ?_)
        have hB4 : Lib.IsBuilder 110 5 w.heap.size w.heap.size (Lib.byteCells (puts (l.take (k + 1)))) w4 := by
          rw [HT.out, Lib.byteCells_append]
          exact h4
        refine Lib.hid ?_
        go_wp2
        go_roundw
        case rel => exact ⟨k + 1, by omega, by go_num, hB4, (ho.tr o2).bel b4, HX⟩
        case measure => simp [intOf]; omega
    · obtain rfl : k = l.length := by omega
      have HA2 := Lib.hid (show l.any wideT = false by have := HA.out; rwa [List.take_length] at this)
      have F := Tryd.Builder_String_any w.heap.size w.heap.size (puts (l.take l.length)) wr hB ho.size
      rw [List.take_length] at F
      go_wp2_with (go_at_call 85; refine F.mono ?_; rintro e w5 ⟨rfl, b5⟩)
      go_ret2
      exact ⟨by rw [HS.out, HE.out]; unfold jS jE; rw [HA2.out]; rfl, ho.bel b5⟩
end Go.Proofs.YtilimfbjkgeciaaDoor
