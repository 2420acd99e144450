/-
  Lists of items as they come in; inOrder: what takes the items of all lists, one by one. Conditions: lengths as written.
-/
import Derived.Test.YtbccpplpfcfboaaMQu6
import Derived.Test.YtbccpplpfcfboaaMMth
import Derived.Test.YtbccpplpfcfboaaRLst
namespace Go.Proofs.Ytbccpplpfcfboaa
open Go.RowKit

/-- A slice of slices that reads as these lists of items. -/
def Lsts (w : World) (v : Value) (Ls : List (List Itm)) : Prop := (v = .slice none 0 0 ∧ Ls = []) ∨ ∃ A cap, v = .slice (some A) Ls.length cap ∧ Ls.length ≤ cap ∧ (Ls ≠ [] → ∃ b off, A = ⟨b, off, none⟩ ∧ ∀ (i : Nat) (L : List Itm), Ls[i]? = some L → ∃ u, w.cell? ⟨b, off + i, none⟩ = some u ∧ Itms w u L)
theorem Lsts.form {w : World} {v : Value} {Ls : List (List Itm)} (h : Lsts w v Ls) : ∃ A cap, v = .slice A Ls.length cap ∧ Ls.length ≤ cap := by
  rcases h with ⟨rfl, rfl⟩ | ⟨A, cap, h1, h2, h3⟩
  · exact ⟨none, 0, rfl, Nat.le_refl _⟩
  · exact ⟨_, _, h1, h2⟩
theorem Lsts.at_ {w : World} {A : Option Addr} {n cap : Nat} {Ls : List (List Itm)} (h : Lsts w (.slice A n cap) Ls) {i : Nat} {L : List Itm} (hx : Ls[i]? = some L) : ∃ b off u, A = some ⟨b, off, none⟩ ∧ w.cell? ⟨b, off + i, none⟩ = some u ∧ Itms w u L := by
  rcases h with ⟨h1, rfl⟩ | ⟨A', cap', h1, h2, h3⟩
  · simp at hx
  · obtain ⟨b, off, rfl, k⟩ := h3 (by rintro rfl; simp at hx)
    injection h1 with e1 e2 e3
    obtain ⟨u, h4, h5⟩ := k i L hx
    exact ⟨b, off, u, e1, h4, h5⟩
theorem Lsts.old {w w' : World} {v : Value} {Ls : List (List Itm)} (h : Lsts w v Ls) (o : Old w w') : Lsts w' v Ls := by
  rcases h with h | ⟨A, cap, h1, h2, h3⟩
  · exact .inl h
  · refine .inr ⟨A, cap, h1, h2, fun hl => ?_⟩
    obtain ⟨b, off, e, k⟩ := h3 hl
    refine ⟨b, off, e, fun i L hL => ?_⟩
    obtain ⟨u, h4, h5⟩ := k i L hL
    exact ⟨u, cell_old h4 o, h5.old o⟩

/-- How many items wait. -/
def tot (ws : List Wt) : Nat := (ws.map fun a => a.r.length + 1).sum
theorem tot_perm {a b : List Wt} (h : a.Perm b) : tot a = tot b := (h.map _).sum_nat
theorem tot_cons (a : Wt) (l : List Wt) : tot (a :: l) = a.r.length + 1 + tot l := by simp [tot]
theorem tot_snoc (a : Wt) (l : List Wt) : tot (l ++ [a]) = tot l + (a.r.length + 1) := by simp [tot]

set_option maxHeartbeats 4000000 in
theorem inOrder_any (w : World) (v : Value) (Ls : List (List Itm)) (h : Lsts w v Ls) (hl : Ls.length ≤ 50000) :
    Calls Try.prog 41 #[v] w fun e w' => e = .returned (.func (.func 53) #[] #[.pointer (some ⟨w.heap.size, 0, none⟩)]) ∧ ∃ ws, HeapF (fun k => ws[k]?) ws.length ∧ Que w w.heap.size ws w' ∧ Waits Ls Ls.length ws ∧ ws.length ≤ Ls.length ∧ tot ws = Ls.flatten.length := by
  obtain ⟨A, cap, rfl, hc⟩ := h.form
  have HI := Lib.hid h
  clear h
  go_enter Try.func41, Try.ntmps41
  go_wp2_with fail
  go_loopw [8] (fun iv wr => ∃ (k : Nat) (ws : List Wt), iv = .int .i64 k ∧ k ≤ Ls.length ∧ ws.length ≤ k ∧ Hid (HeapF (fun k => ws[k]?) ws.length ∧ Que w w.heap.size ws wr ∧ Waits Ls k ws ∧ tot ws = (Ls.take k).flatten.length)) (fun iv _ => Ls.length - (intOf iv).toNat)
  case atStart =>
    refine ⟨0, [], rfl, Nat.zero_le _, Nat.le_refl _, Lib.hid ⟨fun i _ h1 => absurd h1 (by simp), ⟨⟨_, new_bk _ _ _, World.ownsRow_nil _ _ _ _⟩, fun a ha => (by cases ha), Nat.le_refl _, old_alloc _ _⟩, Waits.nil Ls, rfl⟩⟩
  case round =>
    obtain ⟨k, ws, rfl, hk, hwl, HP⟩ := hrel
    by_cases hlt : k < Ls.length
    · obtain ⟨L, HX⟩ : ∃ L, Hid (Ls[k]? = some L) := ⟨Ls[k], Lib.hid (List.getElem?_eq_getElem hlt)⟩
      obtain ⟨b, off, u, rfl, hu, hit⟩ := HI.out.at_ HX.out
      have hu1 := cell_old hu HP.out.2.1.old
      have C := wait_any w wr w.heap.size ws u L k HP.out.2.1 HP.out.1 hit (by omega)
      clear hu hit
      go_wp2_with fail
      refine C.mono ?_
      clear C hu1
      rintro e w1 ⟨⟨u2, rfl⟩, ws', p1, p2, p3, p4⟩
      have HE : Hid (HeapF (fun k => ws'[k]?) ws'.length ∧ Que w w.heap.size ws' w1 ∧ Waits Ls (k + 1) ws' ∧ tot ws' = (Ls.take (k + 1)).flatten.length) := Lib.hid ⟨p1, p2, by
        rcases p4 with ⟨rfl, rfl⟩ | ⟨x, r, rfl, p5⟩
        · exact HP.out.2.2.1.skip HX.out
        · exact HP.out.2.2.1.add HX.out p5, by
        have hL := HX.out
        have e1 : (Ls.take (k + 1)).flatten.length = (Ls.take k).flatten.length + L.length := by
          rw [← take_at hL, List.flatten_append, List.length_append]
          simp
        rw [e1, ← HP.out.2.2.2]
        rcases p4 with ⟨rfl, rfl⟩ | ⟨x, r, rfl, p5⟩
        · simp
        · rw [tot_perm p5, tot_snoc]
          simp⟩
      have hl' : ws'.length ≤ k + 1 := by
        rcases p4 with ⟨rfl, rfl⟩ | ⟨x, r, rfl, p5⟩
        · omega
        · rw [p5.length_eq]; simp; omega
      clear p1 p2 p3 p4 HP HX
      go_wp2
      go_round
      case rel => exact ⟨k + 1, ws', by go_num, by omega, hl', HE⟩
      case measure => simp [intOf]; omega
    · obtain rfl : k = Ls.length := by omega
      go_wp2
      go_ret
      exact ⟨rfl, ws, HP.out.1, HP.out.2.1, HP.out.2.2.1, hwl, by have := HP.out.2.2.2; rwa [List.take_length] at this⟩

/-- One list is taken its first item; what waits then. -/
def Nxt (ws : List Wt) (top : Wt) (ws' : List Wt) : Prop := ∃ ws1 : List Wt, (∀ a ∈ ws, wcmp top a ≤ 0) ∧ (∀ a, a ∈ ws ↔ a = top ∨ a ∈ ws1) ∧ (∀ a ∈ ws', a ∈ ws1 ∨ (top.r = a.x :: a.r ∧ a.i = top.i)) ∧ (∀ a ∈ ws1, a ∈ ws') ∧ (top.r ≠ [] → ∃ a ∈ ws', top.r = a.x :: a.r ∧ a.i = top.i)
/-- The rest of a slice of items. -/
theorem itms_tail {w : World} {A : Option Addr} {n cap : Nat} {x : Itm} {r : List Itm} (h : Itms w (.slice A n cap) (x :: r)) : ∃ b off, A = some ⟨b, off, none⟩ ∧ Itms w (.slice (if cap = 1 then A else some ⟨b, off + 7, none⟩) r.length (cap - 1)) r := by
  rcases h with ⟨h1, h2⟩ | ⟨A', cap', h1, h2, h3⟩
  · cases h2
  · obtain ⟨b, off, rfl, k⟩ := h3 (by simp)
    injection h1 with e1 e2 e3
    subst e1 e3
    refine ⟨b, off, rfl, ?_⟩
    have hl : (x :: r).length = r.length + 1 := rfl
    by_cases hc : cap = 1
    · have : r = [] := List.eq_nil_of_length_eq_zero (by omega)
      subst this
      rw [if_pos hc]
      exact .inr ⟨_, _, rfl, by simp, fun h => absurd rfl h⟩
    · rw [if_neg hc]
      refine .inr ⟨_, _, rfl, by omega, fun _ => ⟨b, off + 7, rfl, ?_⟩⟩
      have := k.drop_ 1
      simpa using this
end Go.Proofs.Ytbccpplpfcfboaa
