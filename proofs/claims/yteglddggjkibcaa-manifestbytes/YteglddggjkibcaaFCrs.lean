/-
  crossed: whether two neighbours have a row in common. Conditions: lengths as written.
-/
import Derived.Test.YteglddggjkibcaaFCon
namespace Go.Proofs.Yteglddggjkibcaa
open Go.RowKit

def deepB (x : Itm) : Bool := decide (0 < x.lev) && leT x.low x.high
/-- Two neighbours of one level have a row in common. -/
def nbr : List Itm → Bool
  | x :: y :: r => (decide (y.lev = x.lev) && leT y.low x.high) || nbr (y :: r)
  | _ => false
theorem nbr_short {l : List Itm} (h : l.length ≤ 1) : nbr l = false := by
  match l, h with
  | [], _ => rfl
  | [x], _ => rfl
set_option maxHeartbeats 1000000 in
theorem deep_any (x : Itm) (w : World) :
    Calls Try.prog 67 #[iv x] w fun e w' => e = .returned (.bool (deepB x)) ∧ Old w w' := by
  by_cases h : 0 < x.lev
  · go_enter Try.func67, Try.ntmps67
    go_wp2_with (go_at_call 58; refine (hasRows_any x _).mono ?_; rintro e w1 ⟨rfl, o1⟩)
    go_ret
    exact ⟨ret_bool (by simp [deepB, h]), (old_alloc _ _).tr o1⟩
  · go_enter Try.func67, Try.ntmps67
    go_wp2_with fail
    go_ret
    have h2 : deepB x = false := by
      have h3 : decide (0 < x.lev) = false := by simp; omega
      simp [deepB, h3]
    exact ⟨ret_bool h2.symm, old_alloc _ _⟩
theorem nbr_yes {D : List Itm} {k : Nat} {x y : Itm} {r : List Itm} (h : nbr D = nbr (D.drop k)) (hd : D.drop k = x :: y :: r) (h1 : y.lev = x.lev) (h2 : leT y.low x.high = true) : nbr D = true := by
  rw [h, hd, nbr]
  simp [h1, h2]
theorem nbr_no {D : List Itm} {k : Nat} {x y : Itm} {r : List Itm} (h : nbr D = nbr (D.drop k)) (hd : D.drop k = x :: y :: r) (hd1 : D.drop (k + 1) = y :: r) (h1 : ¬ y.lev = x.lev ∨ leT y.low x.high = false) : nbr D = nbr (D.drop (k + 1)) := by
  rw [h, hd, hd1, nbr]
  rcases h1 with h1 | h1 <;> simp [h1]
set_option maxRecDepth 100000 in
set_option maxHeartbeats 4000000 in
theorem crossed_any (w : World) (v : Value) (l : List Itm) (h : Itms w v l) (hl : l.length ≤ 50000) :
    Calls Try.prog 35 #[v] w fun e w' => e = .returned (.bool (nbr (l.filter deepB))) ∧ Old w w' := by
  have C := those_any 67 (fun args w => by kernel_rfl) #[] deepB w v l h hl (fun x _ W _ => deep_any x W)
  have hd : (l.filter deepB).length ≤ 50000 := Nat.le_trans (List.length_filter_le _ _) hl
  generalize l.filter deepB = D at *
  clear h
  go_enter Try.func35, Try.ntmps35
  go_wp2_with fail
  refine C.mono ?_
  rintro e w1 ⟨u, rfl, hO, o1⟩
  obtain ⟨A, cap, rfl, hc⟩ := hO.form
  have HI := Lib.hid hO.its
  clear hO C
  go_wp2_with fail
  go_loopw [4] (fun iv wr => ∃ k : Nat, iv = .int .i64 ((k : Int) + 1) ∧ k ≤ D.length ∧ Old w1 wr ∧ Hid (nbr D = nbr (D.drop k))) (fun iv _ => 50001 - (intOf iv).toNat)
  case atStart => exact ⟨0, rfl, Nat.zero_le _, Old.re _, Lib.hid rfl⟩
  case round =>
    obtain ⟨k, rfl, hk, o2, HN⟩ := hrel
    by_cases hlt : k + 1 < D.length
    · obtain ⟨x, y, HX⟩ : ∃ x y, Hid (D[k]? = some x ∧ D[k + 1]? = some y ∧ D.drop k = x :: y :: D.drop (k + 2) ∧ D.drop (k + 1) = y :: D.drop (k + 2)) :=
        ⟨D[k], D[k + 1], Lib.hid ⟨List.getElem?_eq_getElem (by omega), List.getElem?_eq_getElem hlt, by rw [List.drop_eq_getElem_cons (by omega), List.drop_eq_getElem_cons (i := k + 1) (by omega)], List.drop_eq_getElem_cons (by omega)⟩⟩
      obtain ⟨b, off, rfl, hx⟩ := (HI.out.old o2).at_ HX.out.1
      obtain ⟨b', off', hb, hy⟩ := (HI.out.old o2).at_ HX.out.2.1
      injection hb with hb
      injection hb with hb1 hb2
      subst hb1 hb2
      obtain ⟨x0, x1, x2, x3, x4⟩ := hx.held
      obtain ⟨y0, y1, y2, y3, y4⟩ := hy.held
      clear x1 x2 x4 y1 y3 y4 hx hy
      have hw1 : IntKind.i64.wrap ((k : Int) + 1 - 1) = (k : Int) := by rw [IntKind.wrap_i64]; omega
      have hw2 : IntKind.i64.wrap (k : Int) = (k : Int) := by rw [IntKind.wrap_i64]; omega
      have hw3 : IntKind.i64.wrap ((k : Int) + 1) = (k : Int) + 1 := by rw [IntKind.wrap_i64]; omega
      have hb1 : (0 : Int) ≤ (k : Int) := by omega
      have hb2 : (k : Int) < (D.length : Int) := by omega
      have hb3 : (k : Int) + 1 < (D.length : Int) := by omega
      have hb4 : (0 : Int) ≤ (k : Int) + 1 := by omega
      have hb5 : ((k : Int) + 1).toNat = k + 1 := by omega
      have hI : decide ((k : Int) + 1 < (D.length : Int)) = true := by simp; omega
      by_cases he : y.lev = x.lev
      · go_wp2_with fail
        go_quiet (fail)
        cases hL : (Op.bytesLess y.low x.high || y.low == x.high) with
        | true =>
          have HE := Lib.hid (nbr_yes HN.out HX.out.2.2.1 he hL)
          clear hL HX HN x0 x3 y0 y2 he
          go_wp2
          go_ret
          exact ⟨ret_bool HE.out.symm, o1.tr (o2.dn _)⟩
        | false =>
          have HE := Lib.hid (nbr_no HN.out HX.out.2.2.1 HX.out.2.2.2 (.inr hL))
          clear hL HX HN x0 x3 y0 y2 he
          go_wp2
          go_roundw
          case rel => exact ⟨k + 1, by go_num, by omega, o2.dn _, HE⟩
          case measure => simp [intOf]; omega
      · have hE : (y.lev == x.lev) = false := by simpa using he
        go_wp2_with fail
        go_quiet (fail)
        have HE := Lib.hid (nbr_no HN.out HX.out.2.2.1 HX.out.2.2.2 (.inl he))
        clear HX HN x0 x3 y0 y2 he hE
        go_wp2
        go_roundw
        case rel => exact ⟨k + 1, by go_num, by omega, o2.dn _, HE⟩
        case measure => simp [intOf]; omega
    · have HE := Lib.hid (show nbr D = false by rw [HN.out]; exact nbr_short (by simp; omega))
      clear HN
      go_wp2
      go_ret
      exact ⟨ret_bool HE.out.symm, o1.tr o2⟩
end Go.Proofs.Yteglddggjkibcaa
