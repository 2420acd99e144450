/-
  The statements' anchor: shown answers true; SameCells and SameLists of equal lists. No conditions but lengths.
-/
import Derived.Test.YthanenblcplbhaaCIts
import Derived.Test.YthanenblcplbhaaCRise
namespace Go.Proofs.Ythanenblcplbhaa
open Go.RowKit Go.Shelf

theorem two_old {w W W' : World} {a b o p : Nat} {x y : Value} (h : Old w W ∧ W.cell? ⟨a, o, none⟩ = some x ∧ W.cell? ⟨b, p, none⟩ = some y) (k : Old W W') : Old w W' ∧ W'.cell? ⟨a, o, none⟩ = some x ∧ W'.cell? ⟨b, p, none⟩ = some y :=
  ⟨h.1.tr k, cell_old h.2.1 k, cell_old h.2.2 k⟩
theorem neqCell (a : Cel) (w : World) : (binOp .neq 31 (cv a) (cv a)).run Try.prog w = .ok (.bool false) w := by
  go_simp
set_option maxHeartbeats 2000000 in
theorem sameC_any (w : World) (v u : Value) (l : List Cel) (h : Cels w v l) (h' : Cels w u l) (hl : l.length ≤ 100000) :
    Calls Try.prog 12 #[v, u] w fun e w' => e = .returned (.bool true) ∧ Old w w' := by
  obtain ⟨A, cap, rfl, hc⟩ := h.form
  obtain ⟨A', cap', rfl, hc'⟩ := h'.form
  have HI := Lib.hid h
  have HI' := Lib.hid h'
  clear h h'
  go_enter Try.func12, Try.ntmps12
  go_wp2_with fail
  go_loopw [5] (fun iv wr => ∃ k : Nat, iv = .int .i64 k ∧ k ≤ l.length ∧ Old w wr) (fun iv _ => l.length - (intOf iv).toNat)
  case atStart => exact ⟨0, rfl, Nat.zero_le _, Old.re _⟩
  case round =>
    obtain ⟨k, rfl, hk, o1⟩ := hrel
    by_cases hlt : k < l.length
    · obtain ⟨x, HX⟩ : ∃ x, Hid (l[k]? = some x) := ⟨l[k], Lib.hid (List.getElem?_eq_getElem hlt)⟩
      have HE := Lib.hid fun W => neqCell x W
      obtain ⟨b, off, rfl, hx⟩ := (HI.out.old o1).at_ HX.out
      obtain ⟨b', off', rfl, hy⟩ := (HI'.out.old o1).at_ HX.out
      obtain ⟨x0, x1, x2, x3, x4, x5⟩ := hx.held
      obtain ⟨y0, y1, y2, y3, y4, y5⟩ := hy.held
      have hb1 : (0 : Int) ≤ (k : Int) := by omega
      have hb2 : (k : Int) < (l.length : Int) := by omega
      go_upto_region 6 with (fail)
      have he := HE.out
      go_quiet (fail)
      clear x0 x1 x2 x3 x4 x5 y0 y1 y2 y3 y4 y5 hx hy he
      go_wp2
      go_round
      case rel => exact ⟨k + 1, by go_num, by omega, o1.dn _⟩
      case measure => simp [intOf]; omega
    · obtain rfl : k = l.length := by omega
      go_wp2
      go_ret
      exact ⟨rfl, o1⟩
end Go.Proofs.Ythanenblcplbhaa
