/-
  Rising, of the code and of the reference, over a list of cells that came in. Condition: at most 1000 cells.
-/
import Derived.Test.YthanenblcplbhaaCCel
namespace Go.Proofs.Ythanenblcplbhaa
open Go.RowKit

/-- Each stands ahead of the next one. -/
def rising : List Cel → Bool
  | a :: b :: t => decide (cmpC a b < 0) && rising (b :: t)
  | _ => true
theorem rising_short (l : List Cel) (h : l.length ≤ 1) : rising l = true := by
  match l, h with
  | [], _ => rfl
  | [a], _ => rfl
theorem cell_old {w W : World} {b o : Nat} {v : Value} (h : w.cell? ⟨b, o, none⟩ = some v) (k : Old w W) : W.cell? ⟨b, o, none⟩ = some v := by
  rw [kept_cell k b o (World.block_lt_of_cell? w ⟨b, o, none⟩ h)]; exact h
theorem CelsAt.at_ {w : World} {b off : Nat} {l : List Cel} (h : CelsAt w b off l) (i : Nat) (hi : i < l.length) : At6 w b (off + i * 6) l[i] := h i _ (List.getElem?_eq_getElem hi)
theorem rise_old {w W W' : World} {b o1 o2 : Nat} {x y : Cel} (h : Old w W ∧ W.cell? ⟨b, o1, none⟩ = some (.string (B x.row)) ∧ W.cell? ⟨b, o1 + 1, none⟩ = some (.string (B x.col)) ∧ W.cell? ⟨b, o1 + 2, none⟩ = some (.int .u64 x.ts) ∧ W.cell? ⟨b, o1 + 3, none⟩ = some (.int .u64 x.seq) ∧ W.cell? ⟨b, o1 + 4, none⟩ = some (.bool x.del) ∧ W.cell? ⟨b, o1 + 5, none⟩ = some (.string (B x.val)) ∧ W.cell? ⟨b, o2, none⟩ = some (.string (B y.row)) ∧ W.cell? ⟨b, o2 + 1, none⟩ = some (.string (B y.col)) ∧ W.cell? ⟨b, o2 + 2, none⟩ = some (.int .u64 y.ts) ∧ W.cell? ⟨b, o2 + 3, none⟩ = some (.int .u64 y.seq) ∧ W.cell? ⟨b, o2 + 4, none⟩ = some (.bool y.del) ∧ W.cell? ⟨b, o2 + 5, none⟩ = some (.string (B y.val))) (k : Old W W') :
    Old w W' ∧ W'.cell? ⟨b, o1, none⟩ = some (.string (B x.row)) ∧ W'.cell? ⟨b, o1 + 1, none⟩ = some (.string (B x.col)) ∧ W'.cell? ⟨b, o1 + 2, none⟩ = some (.int .u64 x.ts) ∧ W'.cell? ⟨b, o1 + 3, none⟩ = some (.int .u64 x.seq) ∧ W'.cell? ⟨b, o1 + 4, none⟩ = some (.bool x.del) ∧ W'.cell? ⟨b, o1 + 5, none⟩ = some (.string (B x.val)) ∧ W'.cell? ⟨b, o2, none⟩ = some (.string (B y.row)) ∧ W'.cell? ⟨b, o2 + 1, none⟩ = some (.string (B y.col)) ∧ W'.cell? ⟨b, o2 + 2, none⟩ = some (.int .u64 y.ts) ∧ W'.cell? ⟨b, o2 + 3, none⟩ = some (.int .u64 y.seq) ∧ W'.cell? ⟨b, o2 + 4, none⟩ = some (.bool y.del) ∧ W'.cell? ⟨b, o2 + 5, none⟩ = some (.string (B y.val)) := by
  obtain ⟨h0, a0, a1, a2, a3, a4, a5, b0, b1, b2, b3, b4, b5⟩ := h
  exact ⟨h0.tr k, cell_old a0 k, cell_old a1 k, cell_old a2 k, cell_old a3 k, cell_old a4 k, cell_old a5 k, cell_old b0 k, cell_old b1 k, cell_old b2 k, cell_old b3 k, cell_old b4 k, cell_old b5 k⟩
set_option maxRecDepth 100000 in
set_option maxHeartbeats 4000000 in
theorem rising_any (b off cap : Nat) (l : List Cel) (w : World) (hl : l.length ≤ 1000) (h : CelsAt w b off l) :
    Calls Try.prog 22 #[.slice (some ⟨b, off, none⟩) l.length cap] w fun e w' => e = .returned (.bool (rising l)) ∧ Old w w' := by
  go_enter Try.func22, Try.ntmps22
  go_wp2_with fail
  go_loopw [3] (fun i wr => ∃ k : Nat, k ≤ l.length ∧ i = .int .i64 ((k : Int) + 1) ∧ Old w wr ∧ Hid (rising l = rising (l.drop k))) (fun i _ => 1001 - (intOf i).toNat)
  case atStart => exact ⟨0, by omega, rfl, Old.re _, Lib.hid rfl⟩
  case round =>
    obtain ⟨k, hk, rfl, hw, HR⟩ := hrel
    by_cases h1 : k + 1 < l.length
    · have hI : decide ((k : Int) + 1 < l.length) = true := by simp; omega
      have HD := Lib.hid (show l.drop k = l[k] :: l.drop (k + 1) from List.drop_eq_getElem_cons (by omega))
      have HD1 := Lib.hid (show l.drop (k + 1) = l[k + 1] :: l.drop (k + 2) from List.drop_eq_getElem_cons (by omega))
      have hx := (h.at_ k (by omega)).old hw
      have hy := (h.at_ (k + 1) (by omega)).old hw
      generalize l[k] = x at *
      generalize l[k + 1] = y at *
      have hw1 : IntKind.i64.wrap ((k : Int) + 1 - 1) = (k : Int) := by rw [IntKind.wrap_i64]; omega
      have hw2 : IntKind.i64.wrap (k : Int) = (k : Int) := by rw [IntKind.wrap_i64]; omega
      have hb1 : (0 : Int) ≤ (k : Int) := by omega
      have hb2 : (k : Int) < (l.length : Int) := by omega
      have hb3 : (k : Int) + 1 < (l.length : Int) := by omega
      have hb4 : (0 : Int) ≤ (k : Int) + 1 := by omega
      have hb5 : ((k : Int) + 1).toNat = k + 1 := by omega
      have hS : Old w wr ∧ wr.cell? ⟨b, off + k * 6, none⟩ = some (.string (B x.row)) ∧ wr.cell? ⟨b, off + k * 6 + 1, none⟩ = some (.string (B x.col)) ∧ wr.cell? ⟨b, off + k * 6 + 2, none⟩ = some (.int .u64 x.ts) ∧ wr.cell? ⟨b, off + k * 6 + 3, none⟩ = some (.int .u64 x.seq) ∧ wr.cell? ⟨b, off + k * 6 + 4, none⟩ = some (.bool x.del) ∧ wr.cell? ⟨b, off + k * 6 + 5, none⟩ = some (.string (B x.val)) ∧ wr.cell? ⟨b, off + (k + 1) * 6, none⟩ = some (.string (B y.row)) ∧ wr.cell? ⟨b, off + (k + 1) * 6 + 1, none⟩ = some (.string (B y.col)) ∧ wr.cell? ⟨b, off + (k + 1) * 6 + 2, none⟩ = some (.int .u64 y.ts) ∧ wr.cell? ⟨b, off + (k + 1) * 6 + 3, none⟩ = some (.int .u64 y.seq) ∧ wr.cell? ⟨b, off + (k + 1) * 6 + 4, none⟩ = some (.bool y.del) ∧ wr.cell? ⟨b, off + (k + 1) * 6 + 5, none⟩ = some (.string (B y.val)) := by
        obtain ⟨a0, a1, a2, a3, a4, a5⟩ := hx.held
        obtain ⟨b0, b1, b2, b3, b4, b5⟩ := hy.held
        exact ⟨hw, a0, a1, a2, a3, a4, a5, b0, b1, b2, b3, b4, b5⟩
      clear hx hy
      go_wp2_with fail
      go_region_held3 (fun W => Old w W ∧ W.cell? ⟨b, off + k * 6, none⟩ = some (.string (B x.row)) ∧ W.cell? ⟨b, off + k * 6 + 1, none⟩ = some (.string (B x.col)) ∧ W.cell? ⟨b, off + k * 6 + 2, none⟩ = some (.int .u64 x.ts) ∧ W.cell? ⟨b, off + k * 6 + 3, none⟩ = some (.int .u64 x.seq) ∧ W.cell? ⟨b, off + k * 6 + 4, none⟩ = some (.bool x.del) ∧ W.cell? ⟨b, off + k * 6 + 5, none⟩ = some (.string (B x.val)) ∧ W.cell? ⟨b, off + (k + 1) * 6, none⟩ = some (.string (B y.row)) ∧ W.cell? ⟨b, off + (k + 1) * 6 + 1, none⟩ = some (.string (B y.col)) ∧ W.cell? ⟨b, off + (k + 1) * 6 + 2, none⟩ = some (.int .u64 y.ts) ∧ W.cell? ⟨b, off + (k + 1) * 6 + 3, none⟩ = some (.int .u64 y.seq) ∧ W.cell? ⟨b, off + (k + 1) * 6 + 4, none⟩ = some (.bool y.del) ∧ W.cell? ⟨b, off + (k + 1) * 6 + 5, none⟩ = some (.string (B y.val))) (first | exact ⟨hS.1.dr, hS.2⟩ | exact rise_old (by assumption) (by assumption))
        (first
          | (go_at_call 34; with_reducible refine (cmp_any x y _).mono ?_; rintro r w1 ⟨rfl, h1b⟩))
      have f9 : Old w w1 := And.left (by assumption)
      have HC := cmpC_vals x y
      have HN1 := Lib.hid (show cmpC x y < 0 → rising l = rising (l.drop (k + 1)) from fun h => by rw [HR.out, HD.out, HD1.out]; simp [rising, h])
      have HN2 := Lib.hid (show ¬ cmpC x y < 0 → rising l = false from fun h => by rw [HR.out, HD.out, HD1.out]; simp [rising, h])
      by_cases hlt : cmpC x y < 0
      · have hge : decide ((0 : Int) ≤ cmpC x y) = false := by simp; omega
        have HN := Lib.hid (HN1.out hlt)
        clear HC HN1 HN2 hw1 hw2 hS
        go_wp2
        go_roundw
        case rel => exact ⟨k + 1, by omega, by go_num, f9, HN⟩
        case measure => simp [intOf]; omega
      · have hge : decide ((0 : Int) ≤ cmpC x y) = true := by simp; omega
        have HN := Lib.hid (HN2.out hlt)
        clear HC HN1 HN2 hw1 hw2 hS
        go_wp2
        go_ret
        exact ⟨ret_bool HN.out.symm, f9⟩
    · have hI : decide ((k : Int) + 1 < l.length) = false := by simp; omega
      have HV := Lib.hid (show rising l = true by rw [HR.out]; exact rising_short _ (by simp; omega))
      go_wp2_with fail
      go_ret
      exact ⟨ret_bool HV.out.symm, hw⟩
set_option maxHeartbeats 1000000 in
theorem rising_none (A : Option Addr) (cap : Nat) (w : World) :
    Calls Try.prog 22 #[.slice A 0 cap] w fun e w' => e = .returned (.bool true) ∧ Old w w' := by
  go_enter Try.func22, Try.ntmps22
  go_wp2_with fail
  refine wp_loop_rounds 1 ?_
  rw [rounds_succ]
  go_wp2
  go_ret
  exact ⟨rfl, Old.re _⟩
theorem rising_at (v : Value) (l : List Cel) (w : World) (hl : l.length ≤ 1000) (h : Cels w v l) : Calls Try.prog 22 #[v] w fun e w' => e = .returned (.bool (rising l)) ∧ Old w w' := by
  rcases h with ⟨rfl, rfl⟩ | ⟨A, cap, rfl, hc, hA⟩
  · exact rising_none none 0 w
  · by_cases hl0 : l = []
    · subst hl0; exact rising_none _ cap w
    · obtain ⟨b, off, rfl, h⟩ := hA hl0
      exact rising_any b off cap l w hl h
end Go.Proofs.Ythanenblcplbhaa
