/-
  The statements' anchor: shown answers true; SameCells and SameLists of equal lists. No conditions but lengths.
-/
import Derived.Test.YtohokmfbcehkgaaCRal
import Derived.Test.YtohokmfbcehkgaaCSrt
namespace Go.Proofs.Ytohokmfbcehkgaa
open Go.RowKit Go.Shelf

def cA : Cel := ⟨[97], [99], 0, 0, false, []⟩
def cM : Cel := ⟨[109], [99], 0, 0, false, []⟩
def cZ : Cel := ⟨[122], [99], 0, 0, false, []⟩
theorem sh_split : splitE [cA, cM, cZ] [[109]] = 0 ∧ splitV [cA, cM, cZ] [[109]] = [[cA], [cM, cZ]] := by
  refine ⟨by decide, ?_⟩
  unfold splitV
  rw [if_neg (by decide), if_neg (by decide)]
  rfl
theorem sh_all : allE [cA, cM, cZ] [[109]] 1 = 0 ∧ allV [cA, cM, cZ] [[109]] 1 = [(0, [cA]), (1, [cM]), (1, [cZ])] := by
  have e : allE [cA, cM, cZ] [[109]] 1 = 0 := by decide
  refine ⟨e, ?_⟩
  unfold allV
  rw [e, if_neg (by simp)]
  have s0 : splitL [[109]] [cA, cM, cZ] = [[cA], [cM, cZ]] := rfl
  rw [s0]
  simp [upP, List.range_succ, rollL, grps_cons, grps_nil, rollG, rollStep, fits, sameR, cA, cM, cZ]
theorem sh_place : place [[109]] [109] = 1 := by decide
theorem strs_m (w : World) (g : Nat) (h : Bk w g 9 #[.string (B [109])]) : Strs w (some ⟨g, 0, none⟩) 1 [[109]] := by
  refine ⟨Nat.le_refl _, fun i t ht => ?_⟩
  cases i with
  | zero =>
    simp at ht
    subst ht
    exact ⟨by simp [maxLen], g, 0, rfl, h.cell 0⟩
  | succ i => simp at ht
theorem shown_cels (w : World) (g : Nat) (h : Bk w g 50 (flatC [cA, cM, cZ]).toArray) : Cels w (.slice (some ⟨g, 0, none⟩) 3 3) [cA, cM, cZ] := by
  refine .inr ⟨⟨g, 0, none⟩, 3, rfl, Nat.le_refl _, fun _ => ⟨g, 0, rfl, fun i c hc => ?_⟩⟩
  have k : ∀ j, j < 6 → w.cell? ⟨g, 0 + i * 6 + j, none⟩ = (cells c)[j]? := fun j hj => by
    rw [Bk.cell h, ← flatC_at _ i j c hc hj, Nat.zero_add]
    simp
  exact ⟨k 0 (by omega), k 1 (by omega), k 2 (by omega), k 3 (by omega), k 4 (by omega), k 5 (by omega)⟩

set_option maxRecDepth 100000 in
set_option maxHeartbeats 4000000 in
theorem shown_any (w : World) : Calls Try.prog 10 #[] w fun e w' => e = .returned (.bool true) ∧ Old w w' := by
  have hc0 := shown_cels _ _ (new_bk w 50 (flatC [cA, cM, cZ]).toArray)
  have o0 := old_alloc w (.cells (flatC [cA, cM, cZ]).toArray 50)
  go_enter Try.func10, Try.ntmps10
  go_wp2_with fail
  have k1 := new_bk (w.alloc (.cells (flatC [cA, cM, cZ]).toArray 50)) 9 #[.string (B [109])]
  simp only [World.size_alloc] at k1
  have o1 := o0.al (.cells #[.string (B [109])] 9)
  have hc1 := hc0.old (old_alloc (w.alloc (.cells (flatC [cA, cM, cZ]).toArray 50)) (.cells #[.string (B [109])] 9))
  have C1 := split_any _ _ [cA, cM, cZ] hc1 (by simp) _ _ [[109]] (strs_m _ _ k1) (by simp)
  rw [sh_split.1, sh_split.2] at C1
  refine C1.mono ?_
  rintro e w1 ⟨u, us, rfl, h1, o2⟩
  obtain ⟨A1, c1, rfl, -⟩ := h1.form
  have o3 := o1.tr o2
  have hc2 := hc1.old (o2.al (.cells #[.string (B [109])] 9))
  have H1 := Lib.hid h1
  have C2 := all_any _ _ [cA, cM, cZ] hc2 (by simp) _ _ [[109]] (strs_m _ _ (new_bk w1 9 #[.string (B [109])])) (by simp) 1 (by omega)
  rw [sh_all.1, sh_all.2] at C2
  clear C1 k1 hc0 hc1 h1 o0 hc2
  go_wp2_with fail
  refine C2.mono ?_
  rintro e w2 ⟨u2, ps, rfl, h2, o4⟩
  have o5 : Old w1 w2 := (old_alloc _ _).tr o4
  obtain ⟨A2, c2, rfl, -⟩ := h2.form
  obtain ⟨g1, v1, cu1, rfl, -, -, hv1, -, x1⟩ := (H1.out.old o5).at_ (show ([[cA], [cM, cZ]] : List (List Cel))[0]? = some [cA] from rfl)
  obtain ⟨g2, v2, rfl, -, x2, -⟩ := h2.at_ (show ([(0, [cA]), (1, [cM]), (1, [cZ])] : List (Nat × List Cel))[2]? = some (1, [cZ]) from rfl)
  obtain ⟨Av, cv1, rfl, -⟩ := hv1.cels.form
  have C3 := place_any _ _ 1 [[109]] [109] (by simp) (strs_m _ _ (new_bk w2 9 #[.string (B [109])]))
  rw [sh_place] at C3
  have o6 := (o3.tr o5).al (.cells #[.string (B [109])] 9)
  simp only [List.length_cons, List.length_nil, Nat.zero_add] at *
  clear C2 h2 hv1 H1 o1 o2 o3 o4 o5
  go_wp2_with fail
  refine C3.mono ?_
  rintro e w3 ⟨rfl, o7⟩
  have o8 := o6.tr o7
  clear C3 x1 x2 o6 o7
  go_wp2
  go_ret
  exact ⟨rfl, o8⟩
theorem two_old {w W W' : World} {a b o p : Nat} {x y : Value} (h : Old w W ∧ W.cell? ⟨a, o, none⟩ = some x ∧ W.cell? ⟨b, p, none⟩ = some y) (k : Old W W') : Old w W' ∧ W'.cell? ⟨a, o, none⟩ = some x ∧ W'.cell? ⟨b, p, none⟩ = some y :=
  ⟨h.1.tr k, cell_old h.2.1 k, cell_old h.2.2 k⟩
theorem neqCell (a : Cel) (w : World) : (binOp .neq 50 (cv a) (cv a)).run Try.prog w = .ok (.bool false) w := by
  go_simp
set_option maxHeartbeats 2000000 in
theorem sameC_any (w : World) (v u : Value) (l : List Cel) (h : Cels w v l) (h' : Cels w u l) (hl : l.length ≤ 100000) :
    Calls Try.prog 22 #[v, u] w fun e w' => e = .returned (.bool true) ∧ Old w w' := by
  obtain ⟨A, cap, rfl, hc⟩ := h.form
  obtain ⟨A', cap', rfl, hc'⟩ := h'.form
  have HI := Lib.hid h
  have HI' := Lib.hid h'
  clear h h'
  go_enter Try.func22, Try.ntmps22
  go_wp2_with fail
  go_loopw [5] (fun iv wr => ∃ k : Nat, iv = .int .i64 k ∧ k ≤ l.length ∧ Old w wr) (fun iv _ => l.length - (intOf iv).toNat)
  case atStart => exact ⟨0, rfl, Nat.zero_le _, Old.re _⟩
  case round =>
    obtain ⟨k, rfl, hk, o1⟩ := hrel
    by_cases hlt : k < l.length
    · obtain ⟨x, HX⟩ : ∃ x, Hid (l[k]? = some x) := ⟨l[k], Lib.hid (List.getElem?_eq_getElem hlt)⟩
      have HE := Lib.hid fun W => neqCell x W
      obtain ⟨b, off, rfl, hx⟩ := (HI.out.old o1).at_ HX.out
      obtain ⟨b', off', rfl, hy⟩ := (HI'.out.old o1).at_ HX.out
      obtain ⟨x0, x1, x2, x3, x4, x5⟩ := hx.held
      obtain ⟨y0, y1, y2, y3, y4, y5⟩ := hy.held
      have hb1 : (0 : Int) ≤ (k : Int) := by omega
      have hb2 : (k : Int) < (l.length : Int) := by omega
      go_upto_region 6 with (fail)
      have he := HE.out
      go_quiet (fail)
      clear x0 x1 x2 x3 x4 x5 y0 y1 y2 y3 y4 y5 hx hy he
      go_wp2
      go_round
      case rel => exact ⟨k + 1, by go_num, by omega, o1.dn _⟩
      case measure => simp [intOf]; omega
    · obtain rfl : k = l.length := by omega
      go_wp2
      go_ret
      exact ⟨rfl, o1⟩
set_option maxHeartbeats 2000000 in
theorem sameL_any (w : World) (v v' : Value) (us us' : List Value) (b b' : Nat) (LL : List (List Cel)) (h : OwnLL w b v us LL) (h' : OwnLL w b' v' us' LL) (hl : LL.length ≤ 100000) (hL : ∀ L ∈ LL, L.length ≤ 100000) :
    Calls Try.prog 13 #[v, v'] w fun e w' => e = .returned (.bool true) ∧ Old w w' := by
  obtain ⟨A, cap, rfl, hc⟩ := h.form
  obtain ⟨A', cap', rfl, hc'⟩ := h'.form
  have HI := Lib.hid h
  have HI' := Lib.hid h'
  clear h h'
  go_enter Try.func13, Try.ntmps13
  go_wp2_with fail
  go_loopw [5] (fun iv wr => ∃ k : Nat, iv = .int .i64 k ∧ k ≤ LL.length ∧ Old w wr) (fun iv _ => LL.length - (intOf iv).toNat)
  case atStart => exact ⟨0, rfl, Nat.zero_le _, Old.re _⟩
  case round =>
    obtain ⟨k, rfl, hk, o1⟩ := hrel
    by_cases hlt : k < LL.length
    · obtain ⟨L, HX⟩ : ∃ L, Hid (LL[k]? = some L) := ⟨LL[k], Lib.hid (List.getElem?_eq_getElem hlt)⟩
      obtain ⟨g1, u1, c1, rfl, -, -, hu1, -, hc1⟩ := (HI.out.old o1).at_ HX.out
      obtain ⟨g2, u2, c2, rfl, -, -, hu2, -, hc2⟩ := (HI'.out.old o1).at_ HX.out
      have HC := Lib.hid (fun (W : World) (o : Old wr W) => sameC_any W u1 u2 L (hu1.cels.old o) (hu2.cels.old o) (hL L (List.mem_of_getElem? HX.out)))
      obtain ⟨A1, k1, rfl, -⟩ := hu1.cels.form
      obtain ⟨A2, k2, rfl, -⟩ := hu2.cels.form
      have hb1 : (0 : Int) ≤ (k : Int) := by omega
      have hb2 : (k : Int) < (LL.length : Int) := by omega
      have hS : Old wr wr ∧ wr.cell? ⟨g1, k, none⟩ = some (.slice A1 L.length k1) ∧ wr.cell? ⟨g2, k, none⟩ = some (.slice A2 L.length k2) := ⟨Old.re _, hc1, hc2⟩
      have hw0 : IntKind.i64.wrap (k : Int) = (k : Int) := by rw [IntKind.wrap_i64]; omega
      clear hu1 hu2 hc1 hc2
      go_wp2_with fail
      go_region_held3 (fun W => Old wr W ∧ W.cell? ⟨g1, k, none⟩ = some (.slice A1 L.length k1) ∧ W.cell? ⟨g2, k, none⟩ = some (.slice A2 L.length k2)) (first | exact ⟨hS.1.dr, hS.2⟩ | exact two_old (by assumption) (by assumption))
        (first
          | (go_at_call 22; with_reducible refine (HC.out _ (And.left (by assumption))).mono ?_; rintro r w1 ⟨rfl, h1b⟩))
      have f9 : Old wr w1 := And.left (by assumption)
      have f10 := o1.tr f9
      clear hS
      go_wp2
      go_roundw
      case rel => exact ⟨k + 1, by go_num, by omega, f10⟩
      case measure => simp [intOf]; omega
    · obtain rfl : k = LL.length := by omega
      go_wp2
      go_ret
      exact ⟨rfl, o1⟩
end Go.Proofs.Ytohokmfbcehkgaa
