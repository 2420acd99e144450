/-
  The reference's functions of files: less, common, find, put. Conditions: lengths as written.
-/
import Derived.Test.YteglddggjkibcaaFApp
namespace Go.Proofs.Yteglddggjkibcaa
open Go.RowKit

set_option maxHeartbeats 1000000 in
theorem less_any (a b : Itm) (w : World) :
    Calls Try.prog 68 #[iv a, iv b] w fun e w' => e = .returned (.bool (decide (cmpI a b < 0))) ∧ Old w w' := by
  have o := ((Old.re w).al (.cells (icells a) 75)).al (.cells (icells b) 75)
  have HI : cmpI a b = or3 (cmpZ a.lev b.lev) (cmpT a.low b.low) (cmpT a.name b.name) := rfl
  unfold or3 at HI
  have hz := cmpZ_vals a.lev b.lev
  by_cases h1 : a.lev = b.lev
  · rw [if_neg (by simp; omega)] at HI
    by_cases h2 : a.low = b.low
    · rw [if_neg (by simp [h2, cmpT_refl])] at HI
      have h3 := lt_iff a.name b.name
      have h4 := cmpT_vals a.name b.name
      have hE : Op.bytesLess a.name b.name = decide (cmpI a b < 0) := by
        rw [Bool.eq_iff_iff, h3, HI]
        simp
        omega
      clear HI hz h3 h4
      go_enter Try.func68, Try.ntmps68
      go_wp2_with fail
      go_ret
      exact ⟨rfl, o⟩
    · rw [if_pos (fun h => h2 (cmpT_zero _ _ h))] at HI
      have h2b : (a.low == b.low) = false := by simpa using h2
      have h3 := lt_iff a.low b.low
      have h4 := cmpT_vals a.low b.low
      have hE : Op.bytesLess a.low b.low = decide (cmpI a b < 0) := by
        rw [Bool.eq_iff_iff, h3, HI]
        simp
        omega
      clear HI hz h3 h4
      go_enter Try.func68, Try.ntmps68
      go_wp2_with fail
      go_ret
      exact ⟨rfl, o⟩
  · rw [if_pos (by omega)] at HI
    have hE : decide (a.lev < b.lev) = decide (cmpI a b < 0) := by
      rw [HI, decide_eq_decide]
      omega
    clear HI hz
    go_enter Try.func68, Try.ntmps68
    go_wp2_with fail
    go_ret
    exact ⟨rfl, o⟩
set_option maxHeartbeats 1000000 in
theorem common_any (a b : Itm) (w : World) :
    Calls Try.prog 39 #[iv a, iv b] w fun e w' => e = .returned (.bool (leT a.low b.high && leT b.low a.high)) ∧ Old w w' := by
  have o := ((Old.re w).al (.cells (icells a) 75)).al (.cells (icells b) 75)
  go_enter Try.func39, Try.ntmps39
  go_wp2_with fail
  all_goals (go_ret; refine ⟨ret_bool ?_, o⟩; unfold leT; simp_all)
set_option maxHeartbeats 4000000 in
theorem find_any (w : World) (v : Value) (l : List Itm) (s : List UInt8) (h : Itms w v l) (hl : l.length ≤ 100000) :
    Calls Try.prog 38 #[v, .string (B s)] w fun e w' => e = .returned (.int .i64 (match findN l s with | some k => (k : Int) | none => -1)) ∧ w' = w := by
  obtain ⟨A, cap, rfl, hc⟩ := h.form
  have HI := Lib.hid h
  obtain ⟨r, hr⟩ : ∃ r : Int, r = (match findN l s with | some k => (k : Int) | none => -1) := ⟨_, rfl⟩
  rw [← hr]
  have HR := Lib.hid hr
  clear h hr
  go_enter Try.func38, Try.ntmps38
  go_wp2_with fail
  go_loop [5] (fun iv => ∃ k : Nat, iv = .int .i64 k ∧ k ≤ l.length ∧ Hid (∀ y ∈ l.take k, y.name ≠ s)) (fun iv => l.length - (intOf iv).toNat)
  case atStart => exact ⟨0, rfl, Nat.zero_le _, Lib.hid (by simp)⟩
  case round =>
    obtain ⟨k, rfl, hk, HB⟩ := hrel
    by_cases hlt : k < l.length
    · obtain ⟨x, HX⟩ : ∃ x, Hid (l[k]? = some x) := ⟨l[k], Lib.hid (List.getElem?_eq_getElem hlt)⟩
      obtain ⟨b, off, rfl, hx⟩ := HI.out.at_ HX.out
      obtain ⟨x0, x1, x2, x3, x4⟩ := hx.held
      clear x0 x2 x3 x4 hx
      by_cases he : x.name = s
      · have hE : r = (k : Int) := by
          rw [HR.out]
          have : findN l s = some k := by
            unfold findN
            rw [List.findIdx?_eq_some_iff_getElem]
            obtain ⟨h1, h2⟩ := List.getElem?_eq_some_iff.1 HX.out
            refine ⟨h1, by rw [h2]; simpa using he, fun j hj => ?_⟩
            have := HB.out l[j] (by
              rw [List.mem_iff_getElem]
              exact ⟨j, by simp; omega, by rw [List.getElem_take]⟩)
            simpa using this
          rw [this]
        have HE := Lib.hid hE
        clear HB HX hE
        go_wp2
        go_ret
        exact ⟨ret_int HE.out.symm, rfl⟩
      · have HB2 : Hid (∀ y ∈ l.take (k + 1), y.name ≠ s) := Lib.hid (by
          rw [← take_at HX.out]
          intro y hy
          rcases List.mem_append.1 hy with hy | hy
          · exact HB.out y hy
          · rw [List.mem_singleton.1 hy]; exact he)
        have hE2 : (x.name == s) = false := by simpa using he
        clear HB HX
        go_wp2
        go_round
        case rel => exact ⟨k + 1, by go_num, by omega, HB2⟩
        case measure => simp [intOf]; omega
    · obtain rfl : k = l.length := by omega
      have hE : r = -1 := by
        rw [HR.out]
        have h2 := HB.out
        rw [List.take_length] at h2
        rw [findN_none.2 h2]
      have HE := Lib.hid hE
      clear HB hE
      go_wp2
      go_ret
      exact ⟨ret_int HE.out.symm, rfl⟩
theorem keep5 {w W : World} {b o : Nat} {x : Itm} (h : At5 w b o x) (k : Old w W) : Old w W ∧ W.cell? ⟨b, o, none⟩ = some (.int .i64 x.lev) ∧ W.cell? ⟨b, o + 1, none⟩ = some (.string (B x.name)) ∧ W.cell? ⟨b, o + 2, none⟩ = some (.string (B x.low)) ∧ W.cell? ⟨b, o + 3, none⟩ = some (.string (B x.high)) ∧ W.cell? ⟨b, o + 4, none⟩ = some (.int .i64 x.many) :=
  ⟨k, (h.old k).held⟩
theorem keep50 {w W : World} {b : Nat} {x : Itm} {e : TypeId} (h : Bk w b e (icells x)) (k : Old w W) : Old w W ∧ W.cell? ⟨b, 0, none⟩ = some (.int .i64 x.lev) ∧ W.cell? ⟨b, 1, none⟩ = some (.string (B x.name)) ∧ W.cell? ⟨b, 2, none⟩ = some (.string (B x.low)) ∧ W.cell? ⟨b, 3, none⟩ = some (.string (B x.high)) ∧ W.cell? ⟨b, 4, none⟩ = some (.int .i64 x.many) :=
  ⟨k, (h.old k).five⟩
theorem OwnN.low {e : TypeId} {w : World} {base b2 : Nat} {v : Value} {l : List Itm} (h : OwnN e w base v l) (hb : b2 ≤ base) : OwnN e w b2 v l := ⟨h.1.lower hb, h.2⟩
theorem OwnN.at_ {e : TypeId} {w : World} {base : Nat} {g n cap : Nat} {l : List Itm} (h : OwnN e w base (.slice (some ⟨g, 0, none⟩) n cap) l) {i : Nat} {x : Itm} (hx : l[i]? = some x) : At5 w g (i * 5) x := by
  obtain ⟨b, off, h1, h2⟩ := h.1.its.at_ hx
  obtain ⟨g', c', r, e1, -, -, hb, -, -⟩ := h.form
  injection e1 with e1 e2 e3
  injection e1 with e1
  injection e1 with e1
  subst e1
  exact bk_at hb hx
/-- Two files that lie here, in two blocks. -/
theorem p2_of {w W : World} {g h o1 : Nat} {x y : Itm} {e : TypeId} (k0 : At5 w g o1 x) (k1 : Bk w h e (icells y)) (k : Old w W) : Old w W ∧ W.cell? ⟨g, o1, none⟩ = some (.int .i64 x.lev) ∧ W.cell? ⟨g, o1 + 1, none⟩ = some (.string (B x.name)) ∧ W.cell? ⟨g, o1 + 2, none⟩ = some (.string (B x.low)) ∧ W.cell? ⟨g, o1 + 3, none⟩ = some (.string (B x.high)) ∧ W.cell? ⟨g, o1 + 4, none⟩ = some (.int .i64 x.many) ∧ W.cell? ⟨h, 0, none⟩ = some (.int .i64 y.lev) ∧ W.cell? ⟨h, 1, none⟩ = some (.string (B y.name)) ∧ W.cell? ⟨h, 2, none⟩ = some (.string (B y.low)) ∧ W.cell? ⟨h, 3, none⟩ = some (.string (B y.high)) ∧ W.cell? ⟨h, 4, none⟩ = some (.int .i64 y.many) := by
  obtain ⟨a0, a1, a2, a3, a4⟩ := (k0.old k).held
  obtain ⟨b0, b1, b2, b3, b4⟩ := (k1.old k).five
  exact ⟨k, a0, a1, a2, a3, a4, b0, b1, b2, b3, b4⟩
theorem p2_old {w W W' : World} {g h o1 : Nat} {x y : Itm} (k0 : Old w W ∧ W.cell? ⟨g, o1, none⟩ = some (.int .i64 x.lev) ∧ W.cell? ⟨g, o1 + 1, none⟩ = some (.string (B x.name)) ∧ W.cell? ⟨g, o1 + 2, none⟩ = some (.string (B x.low)) ∧ W.cell? ⟨g, o1 + 3, none⟩ = some (.string (B x.high)) ∧ W.cell? ⟨g, o1 + 4, none⟩ = some (.int .i64 x.many) ∧ W.cell? ⟨h, 0, none⟩ = some (.int .i64 y.lev) ∧ W.cell? ⟨h, 1, none⟩ = some (.string (B y.name)) ∧ W.cell? ⟨h, 2, none⟩ = some (.string (B y.low)) ∧ W.cell? ⟨h, 3, none⟩ = some (.string (B y.high)) ∧ W.cell? ⟨h, 4, none⟩ = some (.int .i64 y.many)) (k : Old W W') : Old w W' ∧ W'.cell? ⟨g, o1, none⟩ = some (.int .i64 x.lev) ∧ W'.cell? ⟨g, o1 + 1, none⟩ = some (.string (B x.name)) ∧ W'.cell? ⟨g, o1 + 2, none⟩ = some (.string (B x.low)) ∧ W'.cell? ⟨g, o1 + 3, none⟩ = some (.string (B x.high)) ∧ W'.cell? ⟨g, o1 + 4, none⟩ = some (.int .i64 x.many) ∧ W'.cell? ⟨h, 0, none⟩ = some (.int .i64 y.lev) ∧ W'.cell? ⟨h, 1, none⟩ = some (.string (B y.name)) ∧ W'.cell? ⟨h, 2, none⟩ = some (.string (B y.low)) ∧ W'.cell? ⟨h, 3, none⟩ = some (.string (B y.high)) ∧ W'.cell? ⟨h, 4, none⟩ = some (.int .i64 y.many) := by
  obtain ⟨h0, a0, a1, a2, a3, a4, b0, b1, b2, b3, b4⟩ := k0
  exact ⟨h0.tr k, cell_old a0 k, cell_old a1 k, cell_old a2 k, cell_old a3 k, cell_old a4 k, cell_old b0 k, cell_old b1 k, cell_old b2 k, cell_old b3 k, cell_old b4 k⟩
set_option maxRecDepth 100000 in
set_option maxHeartbeats 8000000 in
theorem put_any (w : World) (base : Nat) (v : Value) (l : List Itm) (x : Itm) (h : OwnN 75 w base v l) (hl : l.length ≤ 40000) :
    Calls Try.prog 37 #[v, iv x] w fun e w' => ∃ u, e = .returned u ∧ Old w w' ∧ OwnN 75 w' w.heap.size u (insI l x) := by
  obtain ⟨g, cap, r, rfl, hg, hc, hb, hr, hm⟩ := h.form
  have HO := Lib.hid hb
  clear h hb hr
  go_enter Try.func37, Try.ntmps37
  go_wp2_with fail
  have HO := Lib.hid (HO.out.old (old_alloc w (.cells (icells x) 75)))
  have HB := Lib.hid (new_bk w 75 (icells x))
  have O1 := old_alloc w (.cells (icells x) 75)
  generalize w.alloc (.cells (icells x) 75) = w1 at *
  obtain ⟨h3, hh3⟩ : ∃ h3, h3 = w.heap.size := ⟨_, rfl⟩
  rw [← hh3] at HB ⊢
  clear hh3
  go_loopw [5] (fun iv wr => ∃ k : Nat, iv = .int .i64 k ∧ k ≤ l.length ∧ Old w1 wr ∧ Hid (∀ y ∈ l.take k, cmpI y x < 0)) (fun iv _ => l.length - (intOf iv).toNat)
  case atStart => exact ⟨0, rfl, Nat.zero_le _, Old.re _, Lib.hid (by simp)⟩
  case round =>
    obtain ⟨k, rfl, hk, o1, HN⟩ := hrel
    have HOW := Lib.hid (HO.out.old o1)
    have HXW := Lib.hid (HB.out.old o1)
    have O8 := O1.tr o1
    have o1x := Lib.hid o1
    clear O1 HO HB o1
    by_cases hlt : k < l.length
    · obtain ⟨y, HX⟩ : ∃ y, Hid (l[k]? = some y) := ⟨l[k], Lib.hid (List.getElem?_eq_getElem hlt)⟩
      have hS : ∀ W, Old wr W → _ := fun W o => p2_of (bk_at HOW.out HX.out) HXW.out o
      have hb1 : (0 : Int) ≤ (k : Int) := by omega
      have hb2 : (k : Int) < (l.length : Int) := by omega
      have hI : decide ((k : Int) < (l.length : Int)) = true := by simpa using hlt
      obtain ⟨-, x0, x1, x2, x3, x4, y0, y1, y2, y3, y4⟩ := hS wr (Old.re _)
      go_wp2_with fail
      go_region_held3 (fun W => Old wr W ∧ W.cell? ⟨g, k * 5, none⟩ = some (.int .i64 y.lev) ∧ W.cell? ⟨g, k * 5 + 1, none⟩ = some (.string (B y.name)) ∧ W.cell? ⟨g, k * 5 + 2, none⟩ = some (.string (B y.low)) ∧ W.cell? ⟨g, k * 5 + 3, none⟩ = some (.string (B y.high)) ∧ W.cell? ⟨g, k * 5 + 4, none⟩ = some (.int .i64 y.many) ∧ W.cell? ⟨h3, 0, none⟩ = some (.int .i64 x.lev) ∧ W.cell? ⟨h3, 1, none⟩ = some (.string (B x.name)) ∧ W.cell? ⟨h3, 2, none⟩ = some (.string (B x.low)) ∧ W.cell? ⟨h3, 3, none⟩ = some (.string (B x.high)) ∧ W.cell? ⟨h3, 4, none⟩ = some (.int .i64 x.many)) (first | exact hS _ (Old.re _).dr | exact p2_old (by assumption) (by assumption))
        (first
          | (go_at_call 68; with_reducible refine (less_any y x _).mono ?_; rintro e w2 ⟨rfl, o2⟩))
      rename_i hHeld
      have f9 : Old wr w2 := hHeld.1
      clear hS hHeld x0 x1 x2 x3 x4 y0 y1 y2 y3 y4
      have HOW := Lib.hid (HOW.out.old f9)
      have HXW := Lib.hid (HXW.out.old f9)
      have O8 := O8.tr f9
      clear o2
      by_cases hlt2 : cmpI y x < 0
      · have hdec : decide (cmpI y x < 0) = true := by simpa using hlt2
        rw [hdec]
        have HN2 : Hid (∀ z ∈ l.take (k + 1), cmpI z x < 0) := Lib.hid (by
          rw [← take_at HX.out]
          intro z hz
          rcases List.mem_append.1 hz with hz | hz
          · exact HN.out z hz
          · rw [List.mem_singleton.1 hz]; exact hlt2)
        have O9 := o1x.out.tr f9
        clear hdec hlt2 HX HN f9 hI hb1 hb2
        go_wp2
        go_roundw
        case rel => exact ⟨k + 1, by go_num, by omega, O9, HN2⟩
        case measure => simp [intOf]; omega
      · have hdec : decide (cmpI y x < 0) = false := by simpa using hlt2
        rw [hdec]
        have HIN := Lib.hid (insI_at HN.out (fun z hz => by
          have e := HX.out
          rw [hz] at e
          injection e with e
          rw [e]; exact hlt2))
        clear hdec hlt2 HX HN f9 hI hb1 hb2 o1x
        generalize w2 = w8 at *
        go_upto_region 4 with (fail)
        obtain ⟨off2, hif, hC2⟩ : ∃ off2 : Nat, (if cap = k then some (⟨g, 0, none⟩ : Addr) else some ⟨g, k * 5, none⟩) = some ⟨g, off2, none⟩ ∧ ItsAt w8 g off2 (l.drop k) := by
          by_cases q : cap = k
          · refine ⟨0, if_pos q, ?_⟩
            rw [List.drop_of_length_le (by omega)]
            intro i c hc
            simp at hc
          · refine ⟨k * 5, if_neg q, ?_⟩
            have := (bk_its HOW.out).drop_ k
            rwa [Nat.zero_add] at this
        have hIA := (bk_its HOW.out).take_ k
        have z1 : (0 : Int) ≤ (k : Int) := by omega
        have z2 : (k : Int) ≤ (cap : Int) := by omega
        have z3 : (k : Int) ≤ (l.length : Int) := by omega
        have z4 : (l.length : Int) ≤ (cap : Int) := by omega
        have z5 : k ≤ cap := by omega
        have hx7 := HXW.out
        obtain ⟨x0, x1, x2, x3, x4⟩ := hx7.five
        have hIx : ∀ W, Old w8 W → Itms W (.slice (some ⟨g, 0, none⟩) k cap) (l.take k) := fun W o => .inr ⟨⟨g, 0, none⟩, cap, by rw [List.length_take, Nat.min_eq_left hk], by simp; omega, fun _ => ⟨g, 0, rfl, hIA.old o⟩⟩
        have hIy : ∀ W, Old w8 W → Itms W (.slice (some ⟨g, off2, none⟩) (l.length - k) (cap - k)) (l.drop k) := fun W o => .inr ⟨⟨g, off2, none⟩, cap - k, by simp, by simp; omega, fun _ => ⟨g, off2, rfl, hC2.old o⟩⟩
        go_region_held_law (fun W => Old w8 W ∧ W.cell? ⟨h3, 0, none⟩ = some (.int .i64 x.lev) ∧ W.cell? ⟨h3, 1, none⟩ = some (.string (B x.name)) ∧ W.cell? ⟨h3, 2, none⟩ = some (.string (B x.low)) ∧ W.cell? ⟨h3, 3, none⟩ = some (.string (B x.high)) ∧ W.cell? ⟨h3, 4, none⟩ = some (.int .i64 x.many)) (exact keep50 hx7 (by repeat (first | with_reducible exact Old.re _ | with_reducible assumption | with_reducible apply Old.al | with_reducible apply Old.dr | with_reducible apply Old.dn)))
          (first
            | (refine step_itsN rfl _ rfl (.tmp 20) (.tmp 23) 28 75 Try.underlying28 Try.infoItemR rfl (W0 := w8) (by repeat (first | with_reducible exact Old.re _ | with_reducible assumption | with_reducible apply Old.al | with_reducible apply Old.dr | with_reducible apply Old.dn)) _ [] (l.take k) rfl (OwnN.empty (by first | with_reducible exact (new_bk _ _ _).drew | with_reducible exact ((new_bk _ _ _).alloc _).drew | with_reducible exact (new_bk1 _ _ _ _).drew) (by simp)) (.slice (some ⟨g, 0, none⟩) k cap) rfl (hIx _ (by repeat (first | with_reducible exact Old.re _ | with_reducible assumption | with_reducible apply Old.al | with_reducible apply Old.dr | with_reducible apply Old.dn))) (by simp; omega) ?_; intro v3 w3 n3 o3 hk3; rw [List.nil_append] at n3)
            | (refine step_itsN rfl _ rfl (.tmp 24) (.tmp 26) 28 75 Try.underlying28 Try.infoItemR rfl (W0 := w8) (by repeat (first | with_reducible exact Old.re _ | with_reducible assumption | with_reducible apply Old.al | with_reducible apply Old.dr | with_reducible apply Old.dn)) v3 (l.take k) [x] rfl (by first | with_reducible exact n3 | with_reducible exact n3.old (old_alloc _ _)) _ rfl (one_its (e := 75) (by first | with_reducible exact new_bk _ _ _ | (refine hk3 _ _ _ ?_ (by simp [Act.eval, Value.ownBlock]); first | with_reducible exact (new_bk _ _ _).drew | with_reducible exact ((new_bk _ _ _).alloc _).drew | with_reducible exact (new_bk1 _ _ _ _).drew))) (by simp; omega) ?_; intro v4 w4 n4 o4 hk4)
            | (refine step_itsN rfl _ rfl (.tmp 27) (.tmp 30) 28 75 Try.underlying28 Try.infoItemR rfl (W0 := w8) o4 v4 (l.take k ++ [x]) (l.drop k) rfl n4 (.slice (some ⟨g, off2, none⟩) (l.length - k) (cap - k)) rfl (hIy _ o4) (by simp; omega) ?_; intro v5 w9 n5 oo5 hk5))
        all_goals clear z1 z2 z3 z4 z5 hk3 hk4 hk5 n3 n4 o3 o4 hif hC2 hIA hx7 hIx hIy x0 x1 x2 x3 x4 HOW HXW
        all_goals
          rw [List.append_assoc, List.singleton_append, ← HIN.out] at n5
          have n6 : OwnN 75 w9 w.heap.size v5 (insI l x) := n5.low O8.size
          have o6 := O8.tr oo5
          obtain ⟨A6, c6, rfl, -⟩ := n6.1.form
          have HN6 := Lib.hid n6
          clear n5 n6 oo5
          go_wp2
          refine bodyPost_ret (v := .slice A6 (insI l x).length c6) (by simp [results, Try.results37, go_sem, Act.put]) rfl ⟨_, rfl, o6, HN6.out⟩
    · have HIN := Lib.hid (insI_at HN.out (fun z hz => absurd (List.getElem?_eq_some_iff.1 hz).1 hlt))
      have hI : decide ((k : Int) < (l.length : Int)) = false := by simpa using hlt
      clear HN o1x
      go_wp2_with fail
      go_quiet (fail)
      have f8 : Old wr (wr.drewN nq) := (Old.re _).dn nq
      have HOW := Lib.hid (HOW.out.old f8)
      have HXW := Lib.hid (HXW.out.old f8)
      have O8 := O8.tr f8
      clear f8 hI
      generalize wr.drewN nq = w8 at *
      go_upto_region 4 with (fail)
      obtain ⟨off2, hif, hC2⟩ : ∃ off2 : Nat, (if cap = k then some (⟨g, 0, none⟩ : Addr) else some ⟨g, k * 5, none⟩) = some ⟨g, off2, none⟩ ∧ ItsAt w8 g off2 (l.drop k) := by
        by_cases q : cap = k
        · refine ⟨0, if_pos q, ?_⟩
          rw [List.drop_of_length_le (by omega)]
          intro i c hc
          simp at hc
        · refine ⟨k * 5, if_neg q, ?_⟩
          have := (bk_its HOW.out).drop_ k
          rwa [Nat.zero_add] at this
      have hIA := (bk_its HOW.out).take_ k
      have z1 : (0 : Int) ≤ (k : Int) := by omega
      have z2 : (k : Int) ≤ (cap : Int) := by omega
      have z3 : (k : Int) ≤ (l.length : Int) := by omega
      have z4 : (l.length : Int) ≤ (cap : Int) := by omega
      have z5 : k ≤ cap := by omega
      have hx7 := HXW.out
      obtain ⟨x0, x1, x2, x3, x4⟩ := hx7.five
      have hIx : ∀ W, Old w8 W → Itms W (.slice (some ⟨g, 0, none⟩) k cap) (l.take k) := fun W o => .inr ⟨⟨g, 0, none⟩, cap, by rw [List.length_take, Nat.min_eq_left hk], by simp; omega, fun _ => ⟨g, 0, rfl, hIA.old o⟩⟩
      have hIy : ∀ W, Old w8 W → Itms W (.slice (some ⟨g, off2, none⟩) (l.length - k) (cap - k)) (l.drop k) := fun W o => .inr ⟨⟨g, off2, none⟩, cap - k, by simp, by simp; omega, fun _ => ⟨g, off2, rfl, hC2.old o⟩⟩
      go_region_held_law (fun W => Old w8 W ∧ W.cell? ⟨h3, 0, none⟩ = some (.int .i64 x.lev) ∧ W.cell? ⟨h3, 1, none⟩ = some (.string (B x.name)) ∧ W.cell? ⟨h3, 2, none⟩ = some (.string (B x.low)) ∧ W.cell? ⟨h3, 3, none⟩ = some (.string (B x.high)) ∧ W.cell? ⟨h3, 4, none⟩ = some (.int .i64 x.many)) (exact keep50 hx7 (by repeat (first | with_reducible exact Old.re _ | with_reducible assumption | with_reducible apply Old.al | with_reducible apply Old.dr | with_reducible apply Old.dn)))
        (first
          | (refine step_itsN rfl _ rfl (.tmp 20) (.tmp 23) 28 75 Try.underlying28 Try.infoItemR rfl (W0 := w8) (by repeat (first | with_reducible exact Old.re _ | with_reducible assumption | with_reducible apply Old.al | with_reducible apply Old.dr | with_reducible apply Old.dn)) _ [] (l.take k) rfl (OwnN.empty (by first | with_reducible exact (new_bk _ _ _).drew | with_reducible exact ((new_bk _ _ _).alloc _).drew | with_reducible exact (new_bk1 _ _ _ _).drew) (by simp)) (.slice (some ⟨g, 0, none⟩) k cap) rfl (hIx _ (by repeat (first | with_reducible exact Old.re _ | with_reducible assumption | with_reducible apply Old.al | with_reducible apply Old.dr | with_reducible apply Old.dn))) (by simp; omega) ?_; intro v3 w3 n3 o3 hk3; rw [List.nil_append] at n3)
          | (refine step_itsN rfl _ rfl (.tmp 24) (.tmp 26) 28 75 Try.underlying28 Try.infoItemR rfl (W0 := w8) (by repeat (first | with_reducible exact Old.re _ | with_reducible assumption | with_reducible apply Old.al | with_reducible apply Old.dr | with_reducible apply Old.dn)) v3 (l.take k) [x] rfl (by first | with_reducible exact n3 | with_reducible exact n3.old (old_alloc _ _)) _ rfl (one_its (e := 75) (by first | with_reducible exact new_bk _ _ _ | (refine hk3 _ _ _ ?_ (by simp [Act.eval, Value.ownBlock]); first | with_reducible exact (new_bk _ _ _).drew | with_reducible exact ((new_bk _ _ _).alloc _).drew | with_reducible exact (new_bk1 _ _ _ _).drew))) (by simp; omega) ?_; intro v4 w4 n4 o4 hk4)
          | (refine step_itsN rfl _ rfl (.tmp 27) (.tmp 30) 28 75 Try.underlying28 Try.infoItemR rfl (W0 := w8) o4 v4 (l.take k ++ [x]) (l.drop k) rfl n4 (.slice (some ⟨g, off2, none⟩) (l.length - k) (cap - k)) rfl (hIy _ o4) (by simp; omega) ?_; intro v5 w9 n5 oo5 hk5))
      all_goals clear z1 z2 z3 z4 z5 hk3 hk4 hk5 n3 n4 o3 o4 hif hC2 hIA hx7 hIx hIy x0 x1 x2 x3 x4 HOW HXW
      all_goals
        rw [List.append_assoc, List.singleton_append, ← HIN.out] at n5
        have n6 : OwnN 75 w9 w.heap.size v5 (insI l x) := n5.low O8.size
        have o6 := O8.tr oo5
        obtain ⟨A6, c6, rfl, -⟩ := n6.1.form
        have HN6 := Lib.hid n6
        clear n5 n6 oo5
        go_wp2
        refine bodyPost_ret (v := .slice A6 (insI l x).length c6) (by simp [results, Try.results37, go_sem, Act.put]) rfl ⟨_, rfl, o6, HN6.out⟩
end Go.Proofs.Yteglddggjkibcaa
