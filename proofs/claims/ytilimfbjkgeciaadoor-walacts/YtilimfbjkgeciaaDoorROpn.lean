/-
  Open of the document's own log. Conditions: a disk that holds a log's files alone.
-/
import Derived.Test.YtilimfbjkgeciaaDoorRPl
namespace Go.Proofs.YtilimfbjkgeciaaDoor
set_option maxRecDepth 100000
open Go.RowKit Go.Maps Go.Shelf

set_option maxHeartbeats 2000000 in
theorem rallO_any (s : List UInt8) (hs : s.length ≤ 1000000) (w : World) :
    Calls Tryd.prog 33 #[.string (B s)] w fun e w' => ∃ A cap, e = .returned (.tuple #[.slice A (allV s).length cap, .int .i64 (took (allV s) : Nat)]) ∧ OwnS w' w.heap.size (.slice A (allV s).length cap) (allV s) ∧ Old w w' := by
  obtain ⟨i0, hi, hz0, hz1, hz2⟩ := info_parts Tryd.infoStr
  go_enter Tryd.func33, Tryd.ntmps33
  go_wp2_with fail
  go_loopw [4, 5] (fun v i wr => ∃ pre : List (List UInt8), i = .int .i64 (took pre : Nat) ∧ took pre ≤ s.length ∧ wr.ownsRow w.heap.size 9 1 v pre.length (ts pre) ∧ Hid (allV s = pre ++ allV (s.drop (took pre))) ∧ pre.length ≤ took pre ∧ Old w wr) (fun _ i _ => s.length - (intOf i).toNat)
  case atStart => exact ⟨[], rfl, Nat.zero_le _, World.ownsRow_made w _ 0 (Nat.le_refl _) (Nat.zero_le _) rfl, Lib.hid rfl, Nat.zero_le _, old_alloc _ _⟩
  case round =>
    obtain ⟨pre, rfl, hle, hrow, HA, hpl, hw⟩ := hrel
    have xd : (B s).extract (took pre) s.length = B (s.drop (took pre)) := ext_drop _ _ _ (Nat.le_refl _)
    have ld : (s.drop (took pre)).length = s.length - took pre := by simp
    have HT := Lib.hid (fun t => took_snoc pre t)
    by_cases hg : (getV (s.drop (took pre))).2.2 = 0
    · have hv := getV_ok hg
      have HR := Lib.hid (getR_yes hg)
      have HN := Lib.hid (allV_yes hg)
      have HD := Lib.hid (fun b => drop_drop' s (took pre) b)
      generalize (getV (s.drop (took pre))).1 = t at *
      generalize htp : took pre = p at *
      generalize s.drop p = r at *
      go_wp2_with fail
      refine (rget_any r (by omega) _).mono ?_
      rintro e w1 ⟨rfl, h1⟩
      rw [HR.out]
      have hrow1 : w1.ownsRow w.heap.size 9 1 _ pre.length (ts pre) := ownsRow_old hrow h1
      have hw1 := hw.tr h1
      clear hrow hw
      go_wp2_with (at_builtin; refine wpList_append_own _ rfl (.tmp 22) (.tmp 24) 31 rfl w.heap.size 9 i0 (.string ByteArray.empty) 1 16 Tryd.underlying31 hi hz0 hz1 hz2 rfl (by decide) _ _ _ rfl (hrow1.alloc _) ⟨w1.heap.size, 0, none⟩ 1 1 [.string (B t)] rfl rfl (cell_one_new _ _ _) (by simp [Value.oneCell']) (by unfold maxLen; omega) (by omega) (by have := hw1.size; simp; omega) ?_; intro v' w2 hown' hgrow _)
      go_roundw
      case rel =>
        have e1 := HT.out t
        refine ⟨pre ++ [t], ?_, by omega, ?_, Lib.hid ?_, by rw [e1, List.length_append]; simp; omega, ?_⟩
        · rw [e1]; congr 1
        · simpa [ts] using hown'
        · rw [HA.out, HN.out, e1, HD.out]; simp
        · exact (hw1.al _).grown hgrow (by have := hw1.size; simp; omega) (fun k hk => (World.ownsRow.lt hrow1 k hk).1)
      case measure => simp only [intOf]; omega
    · have hg2 : (((getV (s.drop (took pre))).2.2 : Nat) : Int) ≠ 0 := by omega
      have HR := Lib.hid (show getR (s.drop (took pre)) = .tuple #[.string (B (getV (s.drop (took pre))).1), .int .i64 ((getV (s.drop (took pre))).2.1 : Nat), .int .i64 ((getV (s.drop (took pre))).2.2 : Nat)] from rfl)
      have HN := Lib.hid (allV_no hg)
      have HE := Lib.hid (show allV s = pre by rw [HA.out, HN.out, List.append_nil])
      generalize (((getV (s.drop (took pre))).2.2 : Nat) : Int) = e1 at *
      have hg3 : (e1 != 0) = true := by simpa using hg2
      generalize getV (s.drop (took pre)) = gv at *
      generalize s.drop (took pre) = r at *
      go_wp2_with fail
      refine (rget_any r (by omega) _).mono ?_
      rintro e w1 ⟨rfl, h1⟩
      rw [HR.out]
      have hrow1 : w1.ownsRow w.heap.size 9 1 _ pre.length (ts pre) := ownsRow_old hrow h1
      go_wp2
      go_ret2
      rw [HE.out]
      obtain ⟨A, cap, rfl, -⟩ := strs_of_own hrow1 (fun t ht => by rw [← HE.out] at ht; have := allV_small s t ht; omega)
      exact ⟨A, cap, rfl, hrow1, hw.tr h1⟩

theorem pread_small {r : Pd} (h : Fin r.files) (x : List UInt8) : (pread r x).1.length ≤ 1000000 := by
  unfold pread
  split
  · exact Nat.zero_le _
  · cases e : pfnd r.files x with
    | none => exact Nat.zero_le _
    | some f => exact Nat.le_trans (le_ptot (List.mem_of_find?_eq_some e)) h.tot
theorem le_took (l : List (List UInt8)) : l.length ≤ took l := by
  induction l with
  | nil => exact Nat.zero_le _
  | cons t l ih => simp [took] at ih ⊢; omega
theorem OwnS.bk {w w' : World} {base : Nat} {v : Value} {l : List (List UInt8)} (r : OwnS w base v l) (h : ∀ (g : Nat) (cs : Array Value), Bk w g 9 cs → Bk w' g 9 cs) : OwnS w' base v l := by
  refine ⟨r.1, ?_⟩
  rcases r.2 with h1 | ⟨gg, cap, cur, hv, hb, hg, rest⟩
  · exact .inl h1
  · exact .inr ⟨gg, cap, cur, hv, hb, h gg _ hg, rest⟩
/-- What Open of the document's own comes to. -/
def PostRO (x : List UInt8) (w : World) (q : Pd × List (List UInt8) × Int) (ev : Ending) (w' : World) : Prop :=
  ∃ A c, Flt w' (.slice A q.1.files.length c) q.1.files ∧ Old w w' ∧
    ((q.2.2 = 0 ∧ ∃ TA tc, ev = .returned (.tuple #[Rv (.slice A q.1.files.length c) q.1, Rlv x (q.2.1.length : Int) false, .slice TA q.2.1.length tc, .int .i64 0]) ∧ OwnS w' w.heap.size (.slice TA q.2.1.length tc) q.2.1 ∧ (∀ t ∈ q.2.1, t.length ≤ 1000000) ∧ q.2.1.length ≤ 1000000) ∨
     (q.2.2 ≠ 0 ∧ ev = .returned (.tuple #[Rv (.slice A q.1.files.length c) q.1, .agg zeroLg, .slice none 0 0, .int .i64 q.2.2])))
set_option maxHeartbeats 16000000 in
theorem ropen_any (A : Option Addr) (c : Nat) (r : Pd) (x : List UInt8) (hG : Good x r) (hx : x.length ≤ 1000) (w : World) (h : Flt w (.slice A r.files.length c) r.files) :
    Calls Tryd.prog 11 #[Rv (.slice A r.files.length c) r, .string (B x)] w (PostRO x w (ropen r x)) := by
  obtain ⟨cap, F, up, left, keep⟩ := r
  simp only at h ⊢
  obtain ⟨R, hR⟩ : ∃ R, R = ropen ⟨cap, F, up, left, keep⟩ x := ⟨_, rfl⟩
  rw [← hR]
  have o0 := ((old_alloc w (.cells #[.int .i64 (cap : Int), .slice A F.length c, .bool (!up), .int .i64 (left : Int), .int .i64 keep] 29)).al (.cells zeroDsk 29)).al (.cells zeroLg 36)
  have b1 := ((new_bk w 29 #[.int .i64 (cap : Int), .slice A F.length c, .bool (!up), .int .i64 (left : Int), .int .i64 keep]).old (old_alloc _ (.cells zeroDsk 29))).old (old_alloc _ (.cells zeroLg 36))
  have b3 := (new_bk' (w.alloc (.cells #[.int .i64 (cap : Int), .slice A F.length c, .bool (!up), .int .i64 (left : Int), .int .i64 keep] 29)) 29 zeroDsk (w.heap.size + 1) (by simp)).old (old_alloc _ (.cells zeroLg 36))
  have b4 := new_bk' ((w.alloc (.cells #[.int .i64 (cap : Int), .slice A F.length c, .bool (!up), .int .i64 (left : Int), .int .i64 keep] 29)).alloc (.cells zeroDsk 29)) 36 zeroLg (w.heap.size + 1 + 1) (by simp)
  have HH := Lib.hid (show _ ∧ _ ∧ _ ∧ _ ∧ _ from ⟨o0, b1, b3, b4, h.old o0⟩)
  have HG := Lib.hid hG
  have HR := Lib.hid hR
  clear hR h hG o0 b1 b3 b4
  have n34 : w.heap.size + 1 ≠ w.heap.size + 1 + 1 := by omega
  have n43 : w.heap.size + 1 + 1 ≠ w.heap.size + 1 := by omega
  have n31 : w.heap.size + 1 ≠ w.heap.size := by omega
  have n41 : w.heap.size + 1 + 1 ≠ w.heap.size := by omega
  have le3 : w.heap.size ≤ w.heap.size + 1 := by omega
  have le4 : w.heap.size ≤ w.heap.size + 1 + 1 := by omega
  go_enter Tryd.func11, Tryd.ntmps11
  go_upto_region 1 with (fail)
  obtain ⟨o, b1, b3, b4, hf⟩ := HH.out
  clear HH
  generalize (((w.alloc (.cells #[.int .i64 (cap : Int), .slice A F.length c, .bool (!up), .int .i64 (left : Int), .int .i64 keep] 29)).alloc (.cells zeroDsk 29)).alloc (.cells zeroLg 36)) = W at *
  have HFL := Lib.hid hf
  clear hf
  by_cases h0 : x.length < 1
  · have h0I : decide ((x.length : Int) < 1) = true := by rw [decide_eq_true_eq]; omega
    have HX := Lib.hid (show R = (⟨cap, F, up, left, keep⟩, [], 1) by rw [HR.out]; unfold ropen bad59; simp [h0])
    have HNZ := Lib.hid (show (1 : Int) ≠ 0 by decide)
    clear HR HG
    have y0 : W.cell? ⟨w.heap.size, 0, none⟩ = some (.int .i64 (cap : Int)) := b1.at_ 0 rfl
    have y1 : W.cell? ⟨w.heap.size, 1, none⟩ = some (.slice A F.length c) := b1.at_ 1 rfl
    have y2 : W.cell? ⟨w.heap.size, 2, none⟩ = some (.bool (!up)) := b1.at_ 2 rfl
    have y3 : W.cell? ⟨w.heap.size, 3, none⟩ = some (.int .i64 (left : Int)) := b1.at_ 3 rfl
    have y4 : W.cell? ⟨w.heap.size, 4, none⟩ = some (.int .i64 keep) := b1.at_ 4 rfl
    have d0 : W.cell? ⟨w.heap.size + 1, 0, none⟩ = some (.int .i64 0) := b3.at_ 0 rfl
    have d1 : W.cell? ⟨w.heap.size + 1, 1, none⟩ = some (.slice none 0 0) := b3.at_ 1 rfl
    have d2 : W.cell? ⟨w.heap.size + 1, 2, none⟩ = some (.bool false) := b3.at_ 2 rfl
    have d3 : W.cell? ⟨w.heap.size + 1, 3, none⟩ = some (.int .i64 0) := b3.at_ 3 rfl
    have d4 : W.cell? ⟨w.heap.size + 1, 4, none⟩ = some (.int .i64 0) := b3.at_ 4 rfl
    have df0 := b3.fr 0
    have df1 := b3.fr 1
    have df2 := b3.fr 2
    have df3 := b3.fr 3
    have df4 := b3.fr 4
    have g0 : W.cell? ⟨w.heap.size + 1 + 1, 0, none⟩ = some (.string { data := #[] }) := b4.at_ 0 rfl
    have g1 : W.cell? ⟨w.heap.size + 1 + 1, 1, none⟩ = some (.int .i64 0) := b4.at_ 1 rfl
    have g2 : W.cell? ⟨w.heap.size + 1 + 1, 2, none⟩ = some (.bool false) := b4.at_ 2 rfl
    have gf0 := b4.fr 0
    have gf1 := b4.fr 1
    have gf2 := b4.fr 2
    have p3 := bfar3 (bk5 b3 (.int .i64 (cap : Int)) (.slice A F.length c) (.bool (!up)) (.int .i64 (left : Int)) (.int .i64 keep)) n34 (.string { data := #[] }) (.int .i64 0) (.bool false)
    have p4 := bk3 (bfar5 b4 n43 (.int .i64 (cap : Int)) (.slice A F.length c) (.bool (!up)) (.int .i64 (left : Int)) (.int .i64 keep)) (.string { data := #[] }) (.int .i64 0) (.bool false)
    have po := old3 (old5 o le3 (.int .i64 (cap : Int)) (.slice A F.length c) (.bool (!up)) (.int .i64 (left : Int)) (.int .i64 keep)) le4 (.string { data := #[] }) (.int .i64 0) (.bool false)
    have pf := far3 (HFL.out.far5 b3 (by decide) (.int .i64 (cap : Int)) (.slice A F.length c) (.bool (!up)) (.int .i64 (left : Int)) (.int .i64 keep)) (bfar5 b4 n43 (.int .i64 (cap : Int)) (.slice A F.length c) (.bool (!up)) (.int .i64 (left : Int)) (.int .i64 keep)) (by decide) (.string { data := #[] }) (.int .i64 0) (.bool false)
    have HE := Lib.hid (show _ ∧ _ ∧ _ ∧ _ from ⟨po, p3, p4, pf⟩)
    clear b1 b3 b4 o po p3 p4 pf
    go_wp2
    obtain ⟨po, p3, p4, pf⟩ := HE.out
    generalize ((((((((W.setCell ⟨w.heap.size + 1, 0, none⟩ (.int .i64 (cap : Int))).setCell ⟨w.heap.size + 1, 1, none⟩ (.slice A F.length c)).setCell ⟨w.heap.size + 1, 2, none⟩ (.bool (!up))).setCell ⟨w.heap.size + 1, 3, none⟩ (.int .i64 (left : Int))).setCell ⟨w.heap.size + 1, 4, none⟩ (.int .i64 keep)).setCell ⟨w.heap.size + 1 + 1, 0, none⟩ (.string { data := #[] })).setCell ⟨w.heap.size + 1 + 1, 1, none⟩ (.int .i64 0)).setCell ⟨w.heap.size + 1 + 1, 2, none⟩ (.bool false)) = WF at *
    have z0 : WF.cell? ⟨w.heap.size + 1, 0, none⟩ = some (.int .i64 (cap : Int)) := p3.at_ 0 rfl
    have z1 : WF.cell? ⟨w.heap.size + 1, 1, none⟩ = some (.slice A F.length c) := p3.at_ 1 rfl
    have z2 : WF.cell? ⟨w.heap.size + 1, 2, none⟩ = some (.bool (!up)) := p3.at_ 2 rfl
    have z3 : WF.cell? ⟨w.heap.size + 1, 3, none⟩ = some (.int .i64 (left : Int)) := p3.at_ 3 rfl
    have z4 : WF.cell? ⟨w.heap.size + 1, 4, none⟩ = some (.int .i64 keep) := p3.at_ 4 rfl
    have x0 : WF.cell? ⟨w.heap.size + 1 + 1, 0, none⟩ = some (.string { data := #[] }) := p4.at_ 0 rfl
    have x1 : WF.cell? ⟨w.heap.size + 1 + 1, 1, none⟩ = some (.int .i64 0) := p4.at_ 1 rfl
    have x2 : WF.cell? ⟨w.heap.size + 1 + 1, 2, none⟩ = some (.bool false) := p4.at_ 2 rfl
    refine bodyPost_ret (v := .tuple #[Rv (.slice A F.length c) ⟨cap, F, up, left, keep⟩, .agg zeroLg, .slice none 0 0, .int .i64 1]) (by simp [results, Tryd.results11, go_sem, z0, z1, z2, z3, z4, x0, x1, x2]) rfl ?_
    rw [HX.out]
    exact ⟨_, _, pf, po, .inr ⟨HNZ.out, rfl⟩⟩
  have h0I : decide ((x.length : Int) < 1) = false := by rw [decide_eq_false_iff_not]; omega
  by_cases h59 : 59 < x.length
  · have h59I : decide ((59 : Int) < (x.length : Int)) = true := by rw [decide_eq_true_eq]; omega
    have HX := Lib.hid (show R = (⟨cap, F, up, left, keep⟩, [], 1) by rw [HR.out]; unfold ropen bad59; simp [h59])
    have HNZ := Lib.hid (show (1 : Int) ≠ 0 by decide)
    clear HR HG
    have y0 : W.cell? ⟨w.heap.size, 0, none⟩ = some (.int .i64 (cap : Int)) := b1.at_ 0 rfl
    have y1 : W.cell? ⟨w.heap.size, 1, none⟩ = some (.slice A F.length c) := b1.at_ 1 rfl
    have y2 : W.cell? ⟨w.heap.size, 2, none⟩ = some (.bool (!up)) := b1.at_ 2 rfl
    have y3 : W.cell? ⟨w.heap.size, 3, none⟩ = some (.int .i64 (left : Int)) := b1.at_ 3 rfl
    have y4 : W.cell? ⟨w.heap.size, 4, none⟩ = some (.int .i64 keep) := b1.at_ 4 rfl
    have d0 : W.cell? ⟨w.heap.size + 1, 0, none⟩ = some (.int .i64 0) := b3.at_ 0 rfl
    have d1 : W.cell? ⟨w.heap.size + 1, 1, none⟩ = some (.slice none 0 0) := b3.at_ 1 rfl
    have d2 : W.cell? ⟨w.heap.size + 1, 2, none⟩ = some (.bool false) := b3.at_ 2 rfl
    have d3 : W.cell? ⟨w.heap.size + 1, 3, none⟩ = some (.int .i64 0) := b3.at_ 3 rfl
    have d4 : W.cell? ⟨w.heap.size + 1, 4, none⟩ = some (.int .i64 0) := b3.at_ 4 rfl
    have df0 := b3.fr 0
    have df1 := b3.fr 1
    have df2 := b3.fr 2
    have df3 := b3.fr 3
    have df4 := b3.fr 4
    have g0 : W.cell? ⟨w.heap.size + 1 + 1, 0, none⟩ = some (.string { data := #[] }) := b4.at_ 0 rfl
    have g1 : W.cell? ⟨w.heap.size + 1 + 1, 1, none⟩ = some (.int .i64 0) := b4.at_ 1 rfl
    have g2 : W.cell? ⟨w.heap.size + 1 + 1, 2, none⟩ = some (.bool false) := b4.at_ 2 rfl
    have gf0 := b4.fr 0
    have gf1 := b4.fr 1
    have gf2 := b4.fr 2
    have p3 := bfar3 (bk5 b3 (.int .i64 (cap : Int)) (.slice A F.length c) (.bool (!up)) (.int .i64 (left : Int)) (.int .i64 keep)) n34 (.string { data := #[] }) (.int .i64 0) (.bool false)
    have p4 := bk3 (bfar5 b4 n43 (.int .i64 (cap : Int)) (.slice A F.length c) (.bool (!up)) (.int .i64 (left : Int)) (.int .i64 keep)) (.string { data := #[] }) (.int .i64 0) (.bool false)
    have po := old3 (old5 o le3 (.int .i64 (cap : Int)) (.slice A F.length c) (.bool (!up)) (.int .i64 (left : Int)) (.int .i64 keep)) le4 (.string { data := #[] }) (.int .i64 0) (.bool false)
    have pf := far3 (HFL.out.far5 b3 (by decide) (.int .i64 (cap : Int)) (.slice A F.length c) (.bool (!up)) (.int .i64 (left : Int)) (.int .i64 keep)) (bfar5 b4 n43 (.int .i64 (cap : Int)) (.slice A F.length c) (.bool (!up)) (.int .i64 (left : Int)) (.int .i64 keep)) (by decide) (.string { data := #[] }) (.int .i64 0) (.bool false)
    have HE := Lib.hid (show _ ∧ _ ∧ _ ∧ _ from ⟨po, p3, p4, pf⟩)
    clear b1 b3 b4 o po p3 p4 pf
    go_wp2
    obtain ⟨po, p3, p4, pf⟩ := HE.out
    generalize ((((((((W.setCell ⟨w.heap.size + 1, 0, none⟩ (.int .i64 (cap : Int))).setCell ⟨w.heap.size + 1, 1, none⟩ (.slice A F.length c)).setCell ⟨w.heap.size + 1, 2, none⟩ (.bool (!up))).setCell ⟨w.heap.size + 1, 3, none⟩ (.int .i64 (left : Int))).setCell ⟨w.heap.size + 1, 4, none⟩ (.int .i64 keep)).setCell ⟨w.heap.size + 1 + 1, 0, none⟩ (.string { data := #[] })).setCell ⟨w.heap.size + 1 + 1, 1, none⟩ (.int .i64 0)).setCell ⟨w.heap.size + 1 + 1, 2, none⟩ (.bool false)) = WF at *
    have z0 : WF.cell? ⟨w.heap.size + 1, 0, none⟩ = some (.int .i64 (cap : Int)) := p3.at_ 0 rfl
    have z1 : WF.cell? ⟨w.heap.size + 1, 1, none⟩ = some (.slice A F.length c) := p3.at_ 1 rfl
    have z2 : WF.cell? ⟨w.heap.size + 1, 2, none⟩ = some (.bool (!up)) := p3.at_ 2 rfl
    have z3 : WF.cell? ⟨w.heap.size + 1, 3, none⟩ = some (.int .i64 (left : Int)) := p3.at_ 3 rfl
    have z4 : WF.cell? ⟨w.heap.size + 1, 4, none⟩ = some (.int .i64 keep) := p3.at_ 4 rfl
    have x0 : WF.cell? ⟨w.heap.size + 1 + 1, 0, none⟩ = some (.string { data := #[] }) := p4.at_ 0 rfl
    have x1 : WF.cell? ⟨w.heap.size + 1 + 1, 1, none⟩ = some (.int .i64 0) := p4.at_ 1 rfl
    have x2 : WF.cell? ⟨w.heap.size + 1 + 1, 2, none⟩ = some (.bool false) := p4.at_ 2 rfl
    refine bodyPost_ret (v := .tuple #[Rv (.slice A F.length c) ⟨cap, F, up, left, keep⟩, .agg zeroLg, .slice none 0 0, .int .i64 1]) (by simp [results, Tryd.results11, go_sem, z0, z1, z2, z3, z4, x0, x1, x2]) rfl ?_
    rw [HX.out]
    exact ⟨_, _, pf, po, .inr ⟨HNZ.out, rfl⟩⟩
  have h59I : decide ((59 : Int) < (x.length : Int)) = false := by rw [decide_eq_false_iff_not]; omega
  have hb59 : bad59 x = false := by
    unfold bad59
    rw [Bool.or_eq_false_iff, decide_eq_false_iff_not, decide_eq_false_iff_not]
    omega
  have HC := Lib.hid (rread_any A c ⟨cap, F, up, left, keep⟩ x HG.out.fin.len W HFL.out)
  have hsl := pread_small HG.out.fin x
  have HPE := Lib.hid (pread_err ⟨cap, F, up, left, keep⟩ x)
  have y0 : W.cell? ⟨w.heap.size, 0, none⟩ = some (.int .i64 (cap : Int)) := b1.at_ 0 rfl
  have y1 : W.cell? ⟨w.heap.size, 1, none⟩ = some (.slice A F.length c) := b1.at_ 1 rfl
  have y2 : W.cell? ⟨w.heap.size, 2, none⟩ = some (.bool (!up)) := b1.at_ 2 rfl
  have y3 : W.cell? ⟨w.heap.size, 3, none⟩ = some (.int .i64 (left : Int)) := b1.at_ 3 rfl
  have y4 : W.cell? ⟨w.heap.size, 4, none⟩ = some (.int .i64 keep) := b1.at_ 4 rfl
  go_wp2_with fail
  refine HC.out.mono ?_
  rintro e w1 ⟨rfl, o1⟩
  have o := o.tr o1
  have b1 := b1.old o1
  have b3 := b3.old o1
  have b4 := b4.old o1
  have hf := HFL.out.old o1
  clear HC HFL o1 y0 y1 y2 y3 y4 h0I h59I h0 h59
  have HFL := Lib.hid hf
  clear hf
  by_cases her : (pread ⟨cap, F, up, left, keep⟩ x).2 ≠ 0 ∧ (pread ⟨cap, F, up, left, keep⟩ x).2 ≠ 3
  · have HX := Lib.hid (show R = (⟨cap, F, up, left, keep⟩, [], (pread ⟨cap, F, up, left, keep⟩ x).2) by rw [HR.out]; unfold ropen; rw [hb59, if_neg (by decide), if_pos her])
    have HNZ := Lib.hid her.1
    obtain ⟨e1, e2⟩ := her
    clear HR HG hsl HPE
    generalize pread ⟨cap, F, up, left, keep⟩ x = q at *
    have e1b : (q.2 != 0) = true := by simpa using e1
    have e2b : (q.2 != 3) = true := by simpa using e2
    clear e1 e2 hb59
    have y0 : w1.cell? ⟨w.heap.size, 0, none⟩ = some (.int .i64 (cap : Int)) := b1.at_ 0 rfl
    have y1 : w1.cell? ⟨w.heap.size, 1, none⟩ = some (.slice A F.length c) := b1.at_ 1 rfl
    have y2 : w1.cell? ⟨w.heap.size, 2, none⟩ = some (.bool (!up)) := b1.at_ 2 rfl
    have y3 : w1.cell? ⟨w.heap.size, 3, none⟩ = some (.int .i64 (left : Int)) := b1.at_ 3 rfl
    have y4 : w1.cell? ⟨w.heap.size, 4, none⟩ = some (.int .i64 keep) := b1.at_ 4 rfl
    have d0 : w1.cell? ⟨w.heap.size + 1, 0, none⟩ = some (.int .i64 0) := b3.at_ 0 rfl
    have d1 : w1.cell? ⟨w.heap.size + 1, 1, none⟩ = some (.slice none 0 0) := b3.at_ 1 rfl
    have d2 : w1.cell? ⟨w.heap.size + 1, 2, none⟩ = some (.bool false) := b3.at_ 2 rfl
    have d3 : w1.cell? ⟨w.heap.size + 1, 3, none⟩ = some (.int .i64 0) := b3.at_ 3 rfl
    have d4 : w1.cell? ⟨w.heap.size + 1, 4, none⟩ = some (.int .i64 0) := b3.at_ 4 rfl
    have df0 := b3.fr 0
    have df1 := b3.fr 1
    have df2 := b3.fr 2
    have df3 := b3.fr 3
    have df4 := b3.fr 4
    have g0 : w1.cell? ⟨w.heap.size + 1 + 1, 0, none⟩ = some (.string { data := #[] }) := b4.at_ 0 rfl
    have g1 : w1.cell? ⟨w.heap.size + 1 + 1, 1, none⟩ = some (.int .i64 0) := b4.at_ 1 rfl
    have g2 : w1.cell? ⟨w.heap.size + 1 + 1, 2, none⟩ = some (.bool false) := b4.at_ 2 rfl
    have gf0 := b4.fr 0
    have gf1 := b4.fr 1
    have gf2 := b4.fr 2
    have p3 := bfar3 (bk5 b3 (.int .i64 (cap : Int)) (.slice A F.length c) (.bool (!up)) (.int .i64 (left : Int)) (.int .i64 keep)) n34 (.string { data := #[] }) (.int .i64 0) (.bool false)
    have p4 := bk3 (bfar5 b4 n43 (.int .i64 (cap : Int)) (.slice A F.length c) (.bool (!up)) (.int .i64 (left : Int)) (.int .i64 keep)) (.string { data := #[] }) (.int .i64 0) (.bool false)
    have po := old3 (old5 o le3 (.int .i64 (cap : Int)) (.slice A F.length c) (.bool (!up)) (.int .i64 (left : Int)) (.int .i64 keep)) le4 (.string { data := #[] }) (.int .i64 0) (.bool false)
    have pf := far3 (HFL.out.far5 b3 (by decide) (.int .i64 (cap : Int)) (.slice A F.length c) (.bool (!up)) (.int .i64 (left : Int)) (.int .i64 keep)) (bfar5 b4 n43 (.int .i64 (cap : Int)) (.slice A F.length c) (.bool (!up)) (.int .i64 (left : Int)) (.int .i64 keep)) (by decide) (.string { data := #[] }) (.int .i64 0) (.bool false)
    have HE := Lib.hid (show _ ∧ _ ∧ _ ∧ _ from ⟨po, p3, p4, pf⟩)
    clear b1 b3 b4 o po p3 p4 pf
    go_wp2
    obtain ⟨po, p3, p4, pf⟩ := HE.out
    generalize ((((((((w1.setCell ⟨w.heap.size + 1, 0, none⟩ (.int .i64 (cap : Int))).setCell ⟨w.heap.size + 1, 1, none⟩ (.slice A F.length c)).setCell ⟨w.heap.size + 1, 2, none⟩ (.bool (!up))).setCell ⟨w.heap.size + 1, 3, none⟩ (.int .i64 (left : Int))).setCell ⟨w.heap.size + 1, 4, none⟩ (.int .i64 keep)).setCell ⟨w.heap.size + 1 + 1, 0, none⟩ (.string { data := #[] })).setCell ⟨w.heap.size + 1 + 1, 1, none⟩ (.int .i64 0)).setCell ⟨w.heap.size + 1 + 1, 2, none⟩ (.bool false)) = WF at *
    have z0 : WF.cell? ⟨w.heap.size + 1, 0, none⟩ = some (.int .i64 (cap : Int)) := p3.at_ 0 rfl
    have z1 : WF.cell? ⟨w.heap.size + 1, 1, none⟩ = some (.slice A F.length c) := p3.at_ 1 rfl
    have z2 : WF.cell? ⟨w.heap.size + 1, 2, none⟩ = some (.bool (!up)) := p3.at_ 2 rfl
    have z3 : WF.cell? ⟨w.heap.size + 1, 3, none⟩ = some (.int .i64 (left : Int)) := p3.at_ 3 rfl
    have z4 : WF.cell? ⟨w.heap.size + 1, 4, none⟩ = some (.int .i64 keep) := p3.at_ 4 rfl
    have x0 : WF.cell? ⟨w.heap.size + 1 + 1, 0, none⟩ = some (.string { data := #[] }) := p4.at_ 0 rfl
    have x1 : WF.cell? ⟨w.heap.size + 1 + 1, 1, none⟩ = some (.int .i64 0) := p4.at_ 1 rfl
    have x2 : WF.cell? ⟨w.heap.size + 1 + 1, 2, none⟩ = some (.bool false) := p4.at_ 2 rfl
    refine bodyPost_ret (v := .tuple #[Rv (.slice A F.length c) ⟨cap, F, up, left, keep⟩, .agg zeroLg, .slice none 0 0, .int .i64 q.2]) (by simp [results, Tryd.results11, go_sem, z0, z1, z2, z3, z4, x0, x1, x2]) rfl ?_
    rw [HX.out]
    exact ⟨_, _, pf, po, .inr ⟨HNZ.out, rfl⟩⟩
  have HR2 := Lib.hid (show R = ((ropenF ⟨cap, F, up, left, keep⟩ x).1, popenT ⟨cap, F, up, left, keep⟩ x, (ropenF ⟨cap, F, up, left, keep⟩ x).2) by rw [HR.out]; unfold ropen; rw [hb59, if_neg (by decide), if_neg her])
  have HTX := Lib.hid (show popenT ⟨cap, F, up, left, keep⟩ x = allV (pread ⟨cap, F, up, left, keep⟩ x).1 from rfl)
  have HFF := Lib.hid (show ropenF ⟨cap, F, up, left, keep⟩ x = if (pread ⟨cap, F, up, left, keep⟩ x).2 = 0 ∧ took (allV (pread ⟨cap, F, up, left, keep⟩ x).1) = (pread ⟨cap, F, up, left, keep⟩ x).1.length then rsync ⟨cap, F, up, left, keep⟩ x else rwrite x ((pread ⟨cap, F, up, left, keep⟩ x).1.take (took (allV (pread ⟨cap, F, up, left, keep⟩ x).1))) ⟨cap, F, up, left, keep⟩ from rfl)
  clear HR hb59
  generalize hQ : pread ⟨cap, F, up, left, keep⟩ x = q at *
  obtain ⟨s, y⟩ := q
  simp only at *
  clear hQ
  have htk := took_allV s
  have HSM := Lib.hid (show ∀ t ∈ allV s, t.length ≤ 1000000 from fun t h => by have := allV_small s t h; omega)
  have HA := Lib.hid (rallO_any s hsl w1)
  have HTL := Lib.hid (show (allV s).length ≤ 1000000 from by have := le_took (allV s); omega)
  have hy : y = 0 ∨ y = 3 := by
    by_cases h : y = 0
    · exact .inl h
    · by_cases h3 : y = 3
      · exact .inr h3
      · exact absurd ⟨h, h3⟩ her
  clear her
  rcases hy with rfl | rfl
  · by_cases e2 : took (allV s) = s.length
    · have HR3 := Lib.hid (show R = ((rsync ⟨cap, F, up, left, keep⟩ x).1, allV s, (rsync ⟨cap, F, up, left, keep⟩ x).2) by rw [HR2.out, HFF.out, HTX.out, if_pos ⟨rfl, e2⟩])
      clear HR2 HFF HTX HPE
      have y0 : w1.cell? ⟨w.heap.size, 0, none⟩ = some (.int .i64 (cap : Int)) := b1.at_ 0 rfl
      have y1 : w1.cell? ⟨w.heap.size, 1, none⟩ = some (.slice A F.length c) := b1.at_ 1 rfl
      have y2 : w1.cell? ⟨w.heap.size, 2, none⟩ = some (.bool (!up)) := b1.at_ 2 rfl
      have y3 : w1.cell? ⟨w.heap.size, 3, none⟩ = some (.int .i64 (left : Int)) := b1.at_ 3 rfl
      have y4 : w1.cell? ⟨w.heap.size, 4, none⟩ = some (.int .i64 keep) := b1.at_ 4 rfl
      go_wp2_with fail
      refine HA.out.mono ?_
      rintro e w2 ⟨TA, tc, rfl, hS, o2⟩
      have hS : OwnS w2 w.heap.size _ _ := row_base hS o.size
      have o := o.tr o2
      have b1 := b1.old o2
      have b3 := b3.old o2
      have b4 := b4.old o2
      have hf := HFL.out.old o2
      clear HA HFL y0 y1 y2 y3 y4 o2
      have HFL := Lib.hid hf
      clear hf
      have HC := rsync_any A c ⟨cap, F, up, left, keep⟩ x HG.out.fin HG.out.left HG.out.two.nd w2 HFL.out
      obtain ⟨R1, hR1⟩ : ∃ R1, R1 = rsync ⟨cap, F, up, left, keep⟩ x := ⟨_, rfl⟩
      rw [← hR1] at HC HR3
      have HC := Lib.hid HC
      clear hR1 HG
      have e2I : decide (((took (allV s) : Nat) : Int) < ((s.length : Nat) : Int)) = false := by rw [decide_eq_false_iff_not]; omega
      have e2J : ¬ took (allV s) < s.length := by omega
      generalize took (allV s) = tk at *
      generalize allV s = T at *
      have y0 : w2.cell? ⟨w.heap.size, 0, none⟩ = some (.int .i64 (cap : Int)) := b1.at_ 0 rfl
      have y1 : w2.cell? ⟨w.heap.size, 1, none⟩ = some (.slice A F.length c) := b1.at_ 1 rfl
      have y2 : w2.cell? ⟨w.heap.size, 2, none⟩ = some (.bool (!up)) := b1.at_ 2 rfl
      have y3 : w2.cell? ⟨w.heap.size, 3, none⟩ = some (.int .i64 (left : Int)) := b1.at_ 3 rfl
      have y4 : w2.cell? ⟨w.heap.size, 4, none⟩ = some (.int .i64 keep) := b1.at_ 4 rfl
      go_wp2_with fail
      refine HC.out.mono ?_
      rintro e w3 ⟨A1, c1, rfl, hf, o1⟩
      have o := o.tr o1
      have b1 := b1.old o1
      have b3 := b3.old o1
      have b4 := b4.old o1
      have hS := hS.old o1
      clear HC HFL o1
      obtain ⟨⟨cap1, F1, up1, left1, keep1⟩, E1⟩ := R1
      simp only at hf HR3
      clear y0 y1 y2 y3 y4
      have y0 : w3.cell? ⟨w.heap.size, 0, none⟩ = some (.int .i64 (cap : Int)) := b1.at_ 0 rfl
      have y1 : w3.cell? ⟨w.heap.size, 1, none⟩ = some (.slice A F.length c) := b1.at_ 1 rfl
      have y2 : w3.cell? ⟨w.heap.size, 2, none⟩ = some (.bool (!up)) := b1.at_ 2 rfl
      have y3 : w3.cell? ⟨w.heap.size, 3, none⟩ = some (.int .i64 (left : Int)) := b1.at_ 3 rfl
      have y4 : w3.cell? ⟨w.heap.size, 4, none⟩ = some (.int .i64 keep) := b1.at_ 4 rfl
      have yf0 := b1.fr 0
      have yf1 := b1.fr 1
      have yf2 := b1.fr 2
      have yf3 := b1.fr 3
      have yf4 := b1.fr 4
      have HH := Lib.hid (show _ ∧ _ ∧ _ ∧ _ ∧ _ ∧ _ from ⟨(((((o.st (p := ⟨w.heap.size, 0, none⟩) (Nat.le_refl _) (.int .i64 (cap1 : Int))).st (p := ⟨w.heap.size, 1, none⟩) (Nat.le_refl _) (.slice A1 F1.length c1)).st (p := ⟨w.heap.size, 2, none⟩) (Nat.le_refl _) (.bool (!up1))).st (p := ⟨w.heap.size, 3, none⟩) (Nat.le_refl _) (.int .i64 (left1 : Int))).st (p := ⟨w.heap.size, 4, none⟩) (Nat.le_refl _) (.int .i64 keep1)), (bk5 b1 (.int .i64 (cap1 : Int)) (.slice A1 F1.length c1) (.bool (!up1)) (.int .i64 (left1 : Int)) (.int .i64 keep1)), bfar5 b3 n31 (.int .i64 (cap1 : Int)) (.slice A1 F1.length c1) (.bool (!up1)) (.int .i64 (left1 : Int)) (.int .i64 keep1), bfar5 b4 n41 (.int .i64 (cap1 : Int)) (.slice A1 F1.length c1) (.bool (!up1)) (.int .i64 (left1 : Int)) (.int .i64 keep1), hf.far5 b1 (by decide) (.int .i64 (cap1 : Int)) (.slice A1 F1.length c1) (.bool (!up1)) (.int .i64 (left1 : Int)) (.int .i64 keep1), hS.bk fun g cs hb => bfar5 hb (Bk.ne hb b1 (by decide)) (.int .i64 (cap1 : Int)) (.slice A1 F1.length c1) (.bool (!up1)) (.int .i64 (left1 : Int)) (.int .i64 keep1)⟩)
      clear o b1 b3 b4 hf hS
      go_upto_region 11 with (fail)
      clear y0 y1 y2 y3 y4 yf0 yf1 yf2 yf3 yf4
      obtain ⟨o, b1, b3, b4, hf, hS⟩ := HH.out
      clear HH
      generalize (((((w3.setCell ⟨w.heap.size, 0, none⟩ (.int .i64 (cap1 : Int))).setCell ⟨w.heap.size, 1, none⟩ (.slice A1 F1.length c1)).setCell ⟨w.heap.size, 2, none⟩ (.bool (!up1))).setCell ⟨w.heap.size, 3, none⟩ (.int .i64 (left1 : Int))).setCell ⟨w.heap.size, 4, none⟩ (.int .i64 keep1)) = W3 at *
      have HFL1 := Lib.hid hf
      have HS := Lib.hid hS
      clear hf hS
      by_cases hz : E1 = 0
      · subst hz
        have HX := Lib.hid (show R = (⟨cap1, F1, up1, left1, keep1⟩, T, 0) from HR3.out)
        clear HR3
        have y0 : W3.cell? ⟨w.heap.size, 0, none⟩ = some (.int .i64 (cap1 : Int)) := b1.at_ 0 rfl
        have y1 : W3.cell? ⟨w.heap.size, 1, none⟩ = some (.slice A1 F1.length c1) := b1.at_ 1 rfl
        have y2 : W3.cell? ⟨w.heap.size, 2, none⟩ = some (.bool (!up1)) := b1.at_ 2 rfl
        have y3 : W3.cell? ⟨w.heap.size, 3, none⟩ = some (.int .i64 (left1 : Int)) := b1.at_ 3 rfl
        have y4 : W3.cell? ⟨w.heap.size, 4, none⟩ = some (.int .i64 keep1) := b1.at_ 4 rfl
        have d0 : W3.cell? ⟨w.heap.size + 1, 0, none⟩ = some (.int .i64 0) := b3.at_ 0 rfl
        have d1 : W3.cell? ⟨w.heap.size + 1, 1, none⟩ = some (.slice none 0 0) := b3.at_ 1 rfl
        have d2 : W3.cell? ⟨w.heap.size + 1, 2, none⟩ = some (.bool false) := b3.at_ 2 rfl
        have d3 : W3.cell? ⟨w.heap.size + 1, 3, none⟩ = some (.int .i64 0) := b3.at_ 3 rfl
        have d4 : W3.cell? ⟨w.heap.size + 1, 4, none⟩ = some (.int .i64 0) := b3.at_ 4 rfl
        have df0 := b3.fr 0
        have df1 := b3.fr 1
        have df2 := b3.fr 2
        have df3 := b3.fr 3
        have df4 := b3.fr 4
        have g0 : W3.cell? ⟨w.heap.size + 1 + 1, 0, none⟩ = some (.string { data := #[] }) := b4.at_ 0 rfl
        have g1 : W3.cell? ⟨w.heap.size + 1 + 1, 1, none⟩ = some (.int .i64 0) := b4.at_ 1 rfl
        have g2 : W3.cell? ⟨w.heap.size + 1 + 1, 2, none⟩ = some (.bool false) := b4.at_ 2 rfl
        have gf0 := b4.fr 0
        have gf1 := b4.fr 1
        have gf2 := b4.fr 2
        have p3 := bfar3 (bk5 b3 (.int .i64 (cap1 : Int)) (.slice A1 F1.length c1) (.bool (!up1)) (.int .i64 (left1 : Int)) (.int .i64 keep1)) n34 (.string (B x)) (.int .i64 (T.length : Int)) (.bool false)
        have p4 := bk3 (bfar5 b4 n43 (.int .i64 (cap1 : Int)) (.slice A1 F1.length c1) (.bool (!up1)) (.int .i64 (left1 : Int)) (.int .i64 keep1)) (.string (B x)) (.int .i64 (T.length : Int)) (.bool false)
        have po := old3 (old5 o le3 (.int .i64 (cap1 : Int)) (.slice A1 F1.length c1) (.bool (!up1)) (.int .i64 (left1 : Int)) (.int .i64 keep1)) le4 (.string (B x)) (.int .i64 (T.length : Int)) (.bool false)
        have pf := far3 (HFL1.out.far5 b3 (by decide) (.int .i64 (cap1 : Int)) (.slice A1 F1.length c1) (.bool (!up1)) (.int .i64 (left1 : Int)) (.int .i64 keep1)) (bfar5 b4 n43 (.int .i64 (cap1 : Int)) (.slice A1 F1.length c1) (.bool (!up1)) (.int .i64 (left1 : Int)) (.int .i64 keep1)) (by decide) (.string (B x)) (.int .i64 (T.length : Int)) (.bool false)
        have ps := HS.out.bk fun g cs hb => bfar3 (bfar5 hb (Bk.ne hb b3 (by decide)) (.int .i64 (cap1 : Int)) (.slice A1 F1.length c1) (.bool (!up1)) (.int .i64 (left1 : Int)) (.int .i64 keep1)) (Bk.ne hb b4 (by decide)) (.string (B x)) (.int .i64 (T.length : Int)) (.bool false)
        have HE := Lib.hid (show _ ∧ _ ∧ _ ∧ _ ∧ _ from ⟨po, p3, p4, pf, ps⟩)
        clear b1 b3 b4 o po p3 p4 pf ps
        go_wp2
        obtain ⟨po, p3, p4, pf, ps⟩ := HE.out
        generalize ((((((((W3.setCell ⟨w.heap.size + 1, 0, none⟩ (.int .i64 (cap1 : Int))).setCell ⟨w.heap.size + 1, 1, none⟩ (.slice A1 F1.length c1)).setCell ⟨w.heap.size + 1, 2, none⟩ (.bool (!up1))).setCell ⟨w.heap.size + 1, 3, none⟩ (.int .i64 (left1 : Int))).setCell ⟨w.heap.size + 1, 4, none⟩ (.int .i64 keep1)).setCell ⟨w.heap.size + 1 + 1, 0, none⟩ (.string (B x))).setCell ⟨w.heap.size + 1 + 1, 1, none⟩ (.int .i64 (T.length : Int))).setCell ⟨w.heap.size + 1 + 1, 2, none⟩ (.bool false)) = WF at *
        have z0 : WF.cell? ⟨w.heap.size + 1, 0, none⟩ = some (.int .i64 (cap1 : Int)) := p3.at_ 0 rfl
        have z1 : WF.cell? ⟨w.heap.size + 1, 1, none⟩ = some (.slice A1 F1.length c1) := p3.at_ 1 rfl
        have z2 : WF.cell? ⟨w.heap.size + 1, 2, none⟩ = some (.bool (!up1)) := p3.at_ 2 rfl
        have z3 : WF.cell? ⟨w.heap.size + 1, 3, none⟩ = some (.int .i64 (left1 : Int)) := p3.at_ 3 rfl
        have z4 : WF.cell? ⟨w.heap.size + 1, 4, none⟩ = some (.int .i64 keep1) := p3.at_ 4 rfl
        have x0 : WF.cell? ⟨w.heap.size + 1 + 1, 0, none⟩ = some (.string (B x)) := p4.at_ 0 rfl
        have x1 : WF.cell? ⟨w.heap.size + 1 + 1, 1, none⟩ = some (.int .i64 (T.length : Int)) := p4.at_ 1 rfl
        have x2 : WF.cell? ⟨w.heap.size + 1 + 1, 2, none⟩ = some (.bool false) := p4.at_ 2 rfl
        refine bodyPost_ret (v := .tuple #[Rv (.slice A1 F1.length c1) ⟨cap1, F1, up1, left1, keep1⟩, Rlv x (T.length : Int) false, .slice TA T.length tc, .int .i64 0]) (by simp [results, Tryd.results11, go_sem, z0, z1, z2, z3, z4, x0, x1, x2]) rfl ?_
        rw [HX.out]
        exact ⟨_, _, pf, po, .inl ⟨rfl, TA, tc, rfl, ps, HSM.out, HTL.out⟩⟩
      · have hzb : (E1 != 0) = true := by simpa using hz
        have HX := Lib.hid (show R = (⟨cap1, F1, up1, left1, keep1⟩, T, E1) from HR3.out)
        have HNZ := Lib.hid hz
        clear HR3 hz
        have y0 : W3.cell? ⟨w.heap.size, 0, none⟩ = some (.int .i64 (cap1 : Int)) := b1.at_ 0 rfl
        have y1 : W3.cell? ⟨w.heap.size, 1, none⟩ = some (.slice A1 F1.length c1) := b1.at_ 1 rfl
        have y2 : W3.cell? ⟨w.heap.size, 2, none⟩ = some (.bool (!up1)) := b1.at_ 2 rfl
        have y3 : W3.cell? ⟨w.heap.size, 3, none⟩ = some (.int .i64 (left1 : Int)) := b1.at_ 3 rfl
        have y4 : W3.cell? ⟨w.heap.size, 4, none⟩ = some (.int .i64 keep1) := b1.at_ 4 rfl
        have d0 : W3.cell? ⟨w.heap.size + 1, 0, none⟩ = some (.int .i64 0) := b3.at_ 0 rfl
        have d1 : W3.cell? ⟨w.heap.size + 1, 1, none⟩ = some (.slice none 0 0) := b3.at_ 1 rfl
        have d2 : W3.cell? ⟨w.heap.size + 1, 2, none⟩ = some (.bool false) := b3.at_ 2 rfl
        have d3 : W3.cell? ⟨w.heap.size + 1, 3, none⟩ = some (.int .i64 0) := b3.at_ 3 rfl
        have d4 : W3.cell? ⟨w.heap.size + 1, 4, none⟩ = some (.int .i64 0) := b3.at_ 4 rfl
        have df0 := b3.fr 0
        have df1 := b3.fr 1
        have df2 := b3.fr 2
        have df3 := b3.fr 3
        have df4 := b3.fr 4
        have g0 : W3.cell? ⟨w.heap.size + 1 + 1, 0, none⟩ = some (.string { data := #[] }) := b4.at_ 0 rfl
        have g1 : W3.cell? ⟨w.heap.size + 1 + 1, 1, none⟩ = some (.int .i64 0) := b4.at_ 1 rfl
        have g2 : W3.cell? ⟨w.heap.size + 1 + 1, 2, none⟩ = some (.bool false) := b4.at_ 2 rfl
        have gf0 := b4.fr 0
        have gf1 := b4.fr 1
        have gf2 := b4.fr 2
        have p3 := bfar3 (bk5 b3 (.int .i64 (cap1 : Int)) (.slice A1 F1.length c1) (.bool (!up1)) (.int .i64 (left1 : Int)) (.int .i64 keep1)) n34 (.string { data := #[] }) (.int .i64 0) (.bool false)
        have p4 := bk3 (bfar5 b4 n43 (.int .i64 (cap1 : Int)) (.slice A1 F1.length c1) (.bool (!up1)) (.int .i64 (left1 : Int)) (.int .i64 keep1)) (.string { data := #[] }) (.int .i64 0) (.bool false)
        have po := old3 (old5 o le3 (.int .i64 (cap1 : Int)) (.slice A1 F1.length c1) (.bool (!up1)) (.int .i64 (left1 : Int)) (.int .i64 keep1)) le4 (.string { data := #[] }) (.int .i64 0) (.bool false)
        have pf := far3 (HFL1.out.far5 b3 (by decide) (.int .i64 (cap1 : Int)) (.slice A1 F1.length c1) (.bool (!up1)) (.int .i64 (left1 : Int)) (.int .i64 keep1)) (bfar5 b4 n43 (.int .i64 (cap1 : Int)) (.slice A1 F1.length c1) (.bool (!up1)) (.int .i64 (left1 : Int)) (.int .i64 keep1)) (by decide) (.string { data := #[] }) (.int .i64 0) (.bool false)
        have HE := Lib.hid (show _ ∧ _ ∧ _ ∧ _ from ⟨po, p3, p4, pf⟩)
        clear b1 b3 b4 o po p3 p4 pf
        go_wp2
        obtain ⟨po, p3, p4, pf⟩ := HE.out
        generalize ((((((((W3.setCell ⟨w.heap.size + 1, 0, none⟩ (.int .i64 (cap1 : Int))).setCell ⟨w.heap.size + 1, 1, none⟩ (.slice A1 F1.length c1)).setCell ⟨w.heap.size + 1, 2, none⟩ (.bool (!up1))).setCell ⟨w.heap.size + 1, 3, none⟩ (.int .i64 (left1 : Int))).setCell ⟨w.heap.size + 1, 4, none⟩ (.int .i64 keep1)).setCell ⟨w.heap.size + 1 + 1, 0, none⟩ (.string { data := #[] })).setCell ⟨w.heap.size + 1 + 1, 1, none⟩ (.int .i64 0)).setCell ⟨w.heap.size + 1 + 1, 2, none⟩ (.bool false)) = WF at *
        have z0 : WF.cell? ⟨w.heap.size + 1, 0, none⟩ = some (.int .i64 (cap1 : Int)) := p3.at_ 0 rfl
        have z1 : WF.cell? ⟨w.heap.size + 1, 1, none⟩ = some (.slice A1 F1.length c1) := p3.at_ 1 rfl
        have z2 : WF.cell? ⟨w.heap.size + 1, 2, none⟩ = some (.bool (!up1)) := p3.at_ 2 rfl
        have z3 : WF.cell? ⟨w.heap.size + 1, 3, none⟩ = some (.int .i64 (left1 : Int)) := p3.at_ 3 rfl
        have z4 : WF.cell? ⟨w.heap.size + 1, 4, none⟩ = some (.int .i64 keep1) := p3.at_ 4 rfl
        have x0 : WF.cell? ⟨w.heap.size + 1 + 1, 0, none⟩ = some (.string { data := #[] }) := p4.at_ 0 rfl
        have x1 : WF.cell? ⟨w.heap.size + 1 + 1, 1, none⟩ = some (.int .i64 0) := p4.at_ 1 rfl
        have x2 : WF.cell? ⟨w.heap.size + 1 + 1, 2, none⟩ = some (.bool false) := p4.at_ 2 rfl
        refine bodyPost_ret (v := .tuple #[Rv (.slice A1 F1.length c1) ⟨cap1, F1, up1, left1, keep1⟩, .agg zeroLg, .slice none 0 0, .int .i64 E1]) (by simp [results, Tryd.results11, go_sem, z0, z1, z2, z3, z4, x0, x1, x2]) rfl ?_
        rw [HX.out]
        exact ⟨_, _, pf, po, .inr ⟨HNZ.out, rfl⟩⟩
    · have e2I : decide (((took (allV s) : Nat) : Int) < ((s.length : Nat) : Int)) = true := by rw [decide_eq_true_eq]; omega
      have HR3 := Lib.hid (show R = ((rwrite x (s.take (took (allV s))) ⟨cap, F, up, left, keep⟩).1, allV s, (rwrite x (s.take (took (allV s))) ⟨cap, F, up, left, keep⟩).2) by rw [HR2.out, HFF.out, HTX.out, if_neg (fun h => e2 h.2)])
      clear HR2 HFF HTX HPE
      have y0 : w1.cell? ⟨w.heap.size, 0, none⟩ = some (.int .i64 (cap : Int)) := b1.at_ 0 rfl
      have y1 : w1.cell? ⟨w.heap.size, 1, none⟩ = some (.slice A F.length c) := b1.at_ 1 rfl
      have y2 : w1.cell? ⟨w.heap.size, 2, none⟩ = some (.bool (!up)) := b1.at_ 2 rfl
      have y3 : w1.cell? ⟨w.heap.size, 3, none⟩ = some (.int .i64 (left : Int)) := b1.at_ 3 rfl
      have y4 : w1.cell? ⟨w.heap.size, 4, none⟩ = some (.int .i64 keep) := b1.at_ 4 rfl
      go_wp2_with fail
      refine HA.out.mono ?_
      rintro e w2 ⟨TA, tc, rfl, hS, o2⟩
      have hS : OwnS w2 w.heap.size _ _ := row_base hS o.size
      have o := o.tr o2
      have b1 := b1.old o2
      have b3 := b3.old o2
      have b4 := b4.old o2
      have hf := HFL.out.old o2
      clear HA HFL y0 y1 y2 y3 y4 o2
      have HFL := Lib.hid hf
      clear hf
      have od : Old w2 w2.drew := (Old.re w2).dr
      have hul : (s.take (took (allV s))).length ≤ 1000000000000 := by rw [List.length_take]; omega
      have HC := rwrite_any A c ⟨cap, F, up, left, keep⟩ x (s.take (took (allV s))) HG.out hx hul w2.drew (HFL.out.old od)
      obtain ⟨R1, hR1⟩ : ∃ R1, R1 = rwrite x (s.take (took (allV s))) ⟨cap, F, up, left, keep⟩ := ⟨_, rfl⟩
      rw [← hR1] at HC HR3
      have HC := Lib.hid HC
      clear hR1 HG hul
      have xt : (B s).extract 0 (took (allV s)) = B (s.take (took (allV s))) := ext_take _ _
      have htI : ((took (allV s) : Nat) : Int) ≤ ((s.length : Nat) : Int) := by omega
      generalize s.take (took (allV s)) = u at *
      generalize took (allV s) = tk at *
      generalize allV s = T at *
      go_upto_region 9 with (fail)
      refine wp_region_noPanic ?_
      refine wp_region_held_drew (S := fun _ => True) (by kernel_rfl) trivial (fun hHeld => ?_)
      clear hHeld
      refine wpAnyH_take (i := 1) (oi := ?o101) (v := .string (B x)) ?h101 (by kernel_rfl) (by kernel_rfl) (by kernel_rfl) (fun _ _ _ h => h) ?y101 trivial ?r101
      case h101 => (simp only [List.getElem?_toArray, List.getElem?_cons_zero, List.getElem?_cons_succ]; rfl)
      case y101 => exact Or.inl ⟨by rfl, by (intro W hSw; clear hSw; go_simp)⟩
      simp only [Act.put, List.setIfInBounds_toArray, List.set_cons_zero, List.set_cons_succ]
      refine wpAnyH_take (i := 2) (oi := ?o102) (v := .string (B s)) ?h102 (by kernel_rfl) (by kernel_rfl) (by kernel_rfl) (fun _ _ _ h => h) ?y102 trivial ?r102
      case h102 => (simp only [List.getElem?_toArray, List.getElem?_cons_zero, List.getElem?_cons_succ]; rfl)
      case y102 => exact Or.inl ⟨by rfl, by (intro W hSw; clear hSw; go_simp)⟩
      simp only [Act.put, List.setIfInBounds_toArray, List.set_cons_zero, List.set_cons_succ]
      refine wpAnyH_take (i := 3) (oi := ?o103) (v := .int .i64 (tk : Int)) ?h103 (by kernel_rfl) (by kernel_rfl) (by kernel_rfl) (fun _ _ _ h => h) ?y103 trivial ?r103
      case h103 => (simp only [List.getElem?_toArray, List.getElem?_cons_zero, List.getElem?_cons_succ]; rfl)
      case y103 => exact Or.inl ⟨by rfl, by (intro W hSw; clear hSw; go_simp)⟩
      simp only [Act.put, List.setIfInBounds_toArray, List.set_cons_zero, List.set_cons_succ]
      refine wpAnyH_take (i := 4) (oi := ?o104) (v := .string (B u)) ?h104 (by kernel_rfl) (by kernel_rfl) (by kernel_rfl) (fun _ _ _ h => h) ?y104 trivial ?r104
      case h104 => (simp only [List.getElem?_toArray, List.getElem?_cons_zero, List.getElem?_cons_succ]; rfl)
      case y104 => exact Or.inl ⟨by rfl, by (intro W hSw; clear hSw; go_simp)⟩
      simp only [Act.put, List.setIfInBounds_toArray, List.set_cons_zero, List.set_cons_succ]
      have y0 : w2.drew.cell? ⟨w.heap.size, 0, none⟩ = some (.int .i64 (cap : Int)) := b1.at_ 0 rfl
      have y1 : w2.drew.cell? ⟨w.heap.size, 1, none⟩ = some (.slice A F.length c) := b1.at_ 1 rfl
      have y2 : w2.drew.cell? ⟨w.heap.size, 2, none⟩ = some (.bool (!up)) := b1.at_ 2 rfl
      have y3 : w2.drew.cell? ⟨w.heap.size, 3, none⟩ = some (.int .i64 (left : Int)) := b1.at_ 3 rfl
      have y4 : w2.drew.cell? ⟨w.heap.size, 4, none⟩ = some (.int .i64 keep) := b1.at_ 4 rfl
      refine wpAnyH_ready (rs := [0]) (by kernel_rfl) (by simp) ?_
      refine AllReadyH.cons rfl (fun K hK => ?_) AllReadyH.nil
      go_simp
      refine hK.out _ _ trivial (fun _ => ?_)
      clear hK y0 y1 y2 y3 y4
      refine wpAnyH_ready (rs := [5]) (by kernel_rfl) (by simp) ?_
      refine AllReadyH.cons rfl (fun K hK => ?_) AllReadyH.nil
      go_simp
      refine HC.out.mono ?_
      rintro e w3 ⟨A1, c1, rfl, hf, o1⟩
      have o1 := od.tr o1
      have o := o.tr o1
      have b1 := b1.old o1
      have b3 := b3.old o1
      have b4 := b4.old o1
      have hS := hS.old o1
      clear HC HFL o1
      obtain ⟨⟨cap1, F1, up1, left1, keep1⟩, E1⟩ := R1
      simp only at hf HR3
      refine hK.out _ _ trivial (fun _ => ?_)
      clear hK od
      refine wpAnyH_take (i := 6) (oi := ?o106) (v := .tuple #[Rv (.slice A1 F1.length c1) ⟨cap1, F1, up1, left1, keep1⟩, .int .i64 E1]) ?h106 (by kernel_rfl) (by kernel_rfl) (by kernel_rfl) (fun _ _ _ h => h) ?y106 trivial ?r106
      case h106 => (simp only [List.getElem?_toArray, List.getElem?_cons_zero, List.getElem?_cons_succ]; rfl)
      case y106 => exact Or.inl ⟨by rfl, by (intro W hSw; clear hSw; go_simp)⟩
      simp only [Act.put, List.setIfInBounds_toArray, List.set_cons_zero, List.set_cons_succ]
      refine wpAnyH_take (i := 7) (oi := ?o107) (v := Rv (.slice A1 F1.length c1) ⟨cap1, F1, up1, left1, keep1⟩) ?h107 (by kernel_rfl) (by kernel_rfl) (by kernel_rfl) (fun _ _ _ h => h) ?y107 trivial ?r107
      case h107 => (simp only [List.getElem?_toArray, List.getElem?_cons_zero, List.getElem?_cons_succ]; rfl)
      case y107 => exact Or.inl ⟨by rfl, by (intro W hSw; clear hSw; go_simp)⟩
      simp only [Act.put, List.setIfInBounds_toArray, List.set_cons_zero, List.set_cons_succ]
      refine wpAnyH_take (i := 8) (oi := ?o108) (v := .int .i64 E1) ?h108 (by kernel_rfl) (by kernel_rfl) (by kernel_rfl) (fun _ _ _ h => h) ?y108 trivial ?r108
      case h108 => (simp only [List.getElem?_toArray, List.getElem?_cons_zero, List.getElem?_cons_succ]; rfl)
      case y108 => exact Or.inl ⟨by rfl, by (intro W hSw; clear hSw; go_simp)⟩
      simp only [Act.put, List.setIfInBounds_toArray, List.set_cons_zero, List.set_cons_succ]
      have y0 : w3.cell? ⟨w.heap.size, 0, none⟩ = some (.int .i64 (cap : Int)) := b1.at_ 0 rfl
      have y1 : w3.cell? ⟨w.heap.size, 1, none⟩ = some (.slice A F.length c) := b1.at_ 1 rfl
      have y2 : w3.cell? ⟨w.heap.size, 2, none⟩ = some (.bool (!up)) := b1.at_ 2 rfl
      have y3 : w3.cell? ⟨w.heap.size, 3, none⟩ = some (.int .i64 (left : Int)) := b1.at_ 3 rfl
      have y4 : w3.cell? ⟨w.heap.size, 4, none⟩ = some (.int .i64 keep) := b1.at_ 4 rfl
      have yf0 := b1.fr 0
      have yf1 := b1.fr 1
      have yf2 := b1.fr 2
      have yf3 := b1.fr 3
      have yf4 := b1.fr 4
      have HH := Lib.hid (show _ ∧ _ ∧ _ ∧ _ ∧ _ ∧ _ from ⟨(((((o.st (p := ⟨w.heap.size, 0, none⟩) (Nat.le_refl _) (.int .i64 (cap1 : Int))).st (p := ⟨w.heap.size, 1, none⟩) (Nat.le_refl _) (.slice A1 F1.length c1)).st (p := ⟨w.heap.size, 2, none⟩) (Nat.le_refl _) (.bool (!up1))).st (p := ⟨w.heap.size, 3, none⟩) (Nat.le_refl _) (.int .i64 (left1 : Int))).st (p := ⟨w.heap.size, 4, none⟩) (Nat.le_refl _) (.int .i64 keep1)), (bk5 b1 (.int .i64 (cap1 : Int)) (.slice A1 F1.length c1) (.bool (!up1)) (.int .i64 (left1 : Int)) (.int .i64 keep1)), bfar5 b3 n31 (.int .i64 (cap1 : Int)) (.slice A1 F1.length c1) (.bool (!up1)) (.int .i64 (left1 : Int)) (.int .i64 keep1), bfar5 b4 n41 (.int .i64 (cap1 : Int)) (.slice A1 F1.length c1) (.bool (!up1)) (.int .i64 (left1 : Int)) (.int .i64 keep1), hf.far5 b1 (by decide) (.int .i64 (cap1 : Int)) (.slice A1 F1.length c1) (.bool (!up1)) (.int .i64 (left1 : Int)) (.int .i64 keep1), hS.bk fun g cs hb => bfar5 hb (Bk.ne hb b1 (by decide)) (.int .i64 (cap1 : Int)) (.slice A1 F1.length c1) (.bool (!up1)) (.int .i64 (left1 : Int)) (.int .i64 keep1)⟩)
      clear o b1 b3 b4 hf hS
      refine wpAnyH_ready (rs := [9]) (by kernel_rfl) (by simp) ?_
      refine AllReadyH.cons rfl (fun K hK => ?_) AllReadyH.nil
      go_simp
      refine hK.out _ _ trivial (fun _ => ?_)
      clear hK y0 y1 y2 y3 y4 yf0 yf1 yf2 yf3 yf4
      refine wpAnyH_take (i := 10) (oi := ?o110) (v := .int .i64 E1) ?h110 (by kernel_rfl) (by kernel_rfl) (by kernel_rfl) (fun _ _ _ h => h) ?y110 trivial ?r110
      case h110 => (simp only [List.getElem?_toArray, List.getElem?_cons_zero, List.getElem?_cons_succ]; rfl)
      case y110 => exact Or.inl ⟨by rfl, by (intro W hSw; clear hSw; go_simp)⟩
      simp only [Act.put, List.setIfInBounds_toArray, List.set_cons_zero, List.set_cons_succ]
      refine wpAnyH_done (by kernel_rfl) ?_ _
      refine NoPanic.normal ?_
      obtain ⟨o, b1, b3, b4, hf, hS⟩ := HH.out
      clear HH
      generalize (((((w3.setCell ⟨w.heap.size, 0, none⟩ (.int .i64 (cap1 : Int))).setCell ⟨w.heap.size, 1, none⟩ (.slice A1 F1.length c1)).setCell ⟨w.heap.size, 2, none⟩ (.bool (!up1))).setCell ⟨w.heap.size, 3, none⟩ (.int .i64 (left1 : Int))).setCell ⟨w.heap.size, 4, none⟩ (.int .i64 keep1)) = W3 at *
      have HFL1 := Lib.hid hf
      have HS := Lib.hid hS
      clear hf hS
      by_cases hz : E1 = 0
      · subst hz
        have HX := Lib.hid (show R = (⟨cap1, F1, up1, left1, keep1⟩, T, 0) from HR3.out)
        clear HR3
        have y0 : W3.cell? ⟨w.heap.size, 0, none⟩ = some (.int .i64 (cap1 : Int)) := b1.at_ 0 rfl
        have y1 : W3.cell? ⟨w.heap.size, 1, none⟩ = some (.slice A1 F1.length c1) := b1.at_ 1 rfl
        have y2 : W3.cell? ⟨w.heap.size, 2, none⟩ = some (.bool (!up1)) := b1.at_ 2 rfl
        have y3 : W3.cell? ⟨w.heap.size, 3, none⟩ = some (.int .i64 (left1 : Int)) := b1.at_ 3 rfl
        have y4 : W3.cell? ⟨w.heap.size, 4, none⟩ = some (.int .i64 keep1) := b1.at_ 4 rfl
        have d0 : W3.cell? ⟨w.heap.size + 1, 0, none⟩ = some (.int .i64 0) := b3.at_ 0 rfl
        have d1 : W3.cell? ⟨w.heap.size + 1, 1, none⟩ = some (.slice none 0 0) := b3.at_ 1 rfl
        have d2 : W3.cell? ⟨w.heap.size + 1, 2, none⟩ = some (.bool false) := b3.at_ 2 rfl
        have d3 : W3.cell? ⟨w.heap.size + 1, 3, none⟩ = some (.int .i64 0) := b3.at_ 3 rfl
        have d4 : W3.cell? ⟨w.heap.size + 1, 4, none⟩ = some (.int .i64 0) := b3.at_ 4 rfl
        have df0 := b3.fr 0
        have df1 := b3.fr 1
        have df2 := b3.fr 2
        have df3 := b3.fr 3
        have df4 := b3.fr 4
        have g0 : W3.cell? ⟨w.heap.size + 1 + 1, 0, none⟩ = some (.string { data := #[] }) := b4.at_ 0 rfl
        have g1 : W3.cell? ⟨w.heap.size + 1 + 1, 1, none⟩ = some (.int .i64 0) := b4.at_ 1 rfl
        have g2 : W3.cell? ⟨w.heap.size + 1 + 1, 2, none⟩ = some (.bool false) := b4.at_ 2 rfl
        have gf0 := b4.fr 0
        have gf1 := b4.fr 1
        have gf2 := b4.fr 2
        have p3 := bfar3 (bk5 b3 (.int .i64 (cap1 : Int)) (.slice A1 F1.length c1) (.bool (!up1)) (.int .i64 (left1 : Int)) (.int .i64 keep1)) n34 (.string (B x)) (.int .i64 (T.length : Int)) (.bool false)
        have p4 := bk3 (bfar5 b4 n43 (.int .i64 (cap1 : Int)) (.slice A1 F1.length c1) (.bool (!up1)) (.int .i64 (left1 : Int)) (.int .i64 keep1)) (.string (B x)) (.int .i64 (T.length : Int)) (.bool false)
        have po := old3 (old5 o le3 (.int .i64 (cap1 : Int)) (.slice A1 F1.length c1) (.bool (!up1)) (.int .i64 (left1 : Int)) (.int .i64 keep1)) le4 (.string (B x)) (.int .i64 (T.length : Int)) (.bool false)
        have pf := far3 (HFL1.out.far5 b3 (by decide) (.int .i64 (cap1 : Int)) (.slice A1 F1.length c1) (.bool (!up1)) (.int .i64 (left1 : Int)) (.int .i64 keep1)) (bfar5 b4 n43 (.int .i64 (cap1 : Int)) (.slice A1 F1.length c1) (.bool (!up1)) (.int .i64 (left1 : Int)) (.int .i64 keep1)) (by decide) (.string (B x)) (.int .i64 (T.length : Int)) (.bool false)
        have ps := HS.out.bk fun g cs hb => bfar3 (bfar5 hb (Bk.ne hb b3 (by decide)) (.int .i64 (cap1 : Int)) (.slice A1 F1.length c1) (.bool (!up1)) (.int .i64 (left1 : Int)) (.int .i64 keep1)) (Bk.ne hb b4 (by decide)) (.string (B x)) (.int .i64 (T.length : Int)) (.bool false)
        have HE := Lib.hid (show _ ∧ _ ∧ _ ∧ _ ∧ _ from ⟨po, p3, p4, pf, ps⟩)
        clear b1 b3 b4 o po p3 p4 pf ps
        go_wp2
        obtain ⟨po, p3, p4, pf, ps⟩ := HE.out
        generalize ((((((((W3.setCell ⟨w.heap.size + 1, 0, none⟩ (.int .i64 (cap1 : Int))).setCell ⟨w.heap.size + 1, 1, none⟩ (.slice A1 F1.length c1)).setCell ⟨w.heap.size + 1, 2, none⟩ (.bool (!up1))).setCell ⟨w.heap.size + 1, 3, none⟩ (.int .i64 (left1 : Int))).setCell ⟨w.heap.size + 1, 4, none⟩ (.int .i64 keep1)).setCell ⟨w.heap.size + 1 + 1, 0, none⟩ (.string (B x))).setCell ⟨w.heap.size + 1 + 1, 1, none⟩ (.int .i64 (T.length : Int))).setCell ⟨w.heap.size + 1 + 1, 2, none⟩ (.bool false)) = WF at *
        have z0 : WF.cell? ⟨w.heap.size + 1, 0, none⟩ = some (.int .i64 (cap1 : Int)) := p3.at_ 0 rfl
        have z1 : WF.cell? ⟨w.heap.size + 1, 1, none⟩ = some (.slice A1 F1.length c1) := p3.at_ 1 rfl
        have z2 : WF.cell? ⟨w.heap.size + 1, 2, none⟩ = some (.bool (!up1)) := p3.at_ 2 rfl
        have z3 : WF.cell? ⟨w.heap.size + 1, 3, none⟩ = some (.int .i64 (left1 : Int)) := p3.at_ 3 rfl
        have z4 : WF.cell? ⟨w.heap.size + 1, 4, none⟩ = some (.int .i64 keep1) := p3.at_ 4 rfl
        have x0 : WF.cell? ⟨w.heap.size + 1 + 1, 0, none⟩ = some (.string (B x)) := p4.at_ 0 rfl
        have x1 : WF.cell? ⟨w.heap.size + 1 + 1, 1, none⟩ = some (.int .i64 (T.length : Int)) := p4.at_ 1 rfl
        have x2 : WF.cell? ⟨w.heap.size + 1 + 1, 2, none⟩ = some (.bool false) := p4.at_ 2 rfl
        refine bodyPost_ret (v := .tuple #[Rv (.slice A1 F1.length c1) ⟨cap1, F1, up1, left1, keep1⟩, Rlv x (T.length : Int) false, .slice TA T.length tc, .int .i64 0]) (by simp [results, Tryd.results11, go_sem, z0, z1, z2, z3, z4, x0, x1, x2]) rfl ?_
        rw [HX.out]
        exact ⟨_, _, pf, po, .inl ⟨rfl, TA, tc, rfl, ps, HSM.out, HTL.out⟩⟩
      · have hzb : (E1 != 0) = true := by simpa using hz
        have HX := Lib.hid (show R = (⟨cap1, F1, up1, left1, keep1⟩, T, E1) from HR3.out)
        have HNZ := Lib.hid hz
        clear HR3 hz
        have y0 : W3.cell? ⟨w.heap.size, 0, none⟩ = some (.int .i64 (cap1 : Int)) := b1.at_ 0 rfl
        have y1 : W3.cell? ⟨w.heap.size, 1, none⟩ = some (.slice A1 F1.length c1) := b1.at_ 1 rfl
        have y2 : W3.cell? ⟨w.heap.size, 2, none⟩ = some (.bool (!up1)) := b1.at_ 2 rfl
        have y3 : W3.cell? ⟨w.heap.size, 3, none⟩ = some (.int .i64 (left1 : Int)) := b1.at_ 3 rfl
        have y4 : W3.cell? ⟨w.heap.size, 4, none⟩ = some (.int .i64 keep1) := b1.at_ 4 rfl
        have d0 : W3.cell? ⟨w.heap.size + 1, 0, none⟩ = some (.int .i64 0) := b3.at_ 0 rfl
        have d1 : W3.cell? ⟨w.heap.size + 1, 1, none⟩ = some (.slice none 0 0) := b3.at_ 1 rfl
        have d2 : W3.cell? ⟨w.heap.size + 1, 2, none⟩ = some (.bool false) := b3.at_ 2 rfl
        have d3 : W3.cell? ⟨w.heap.size + 1, 3, none⟩ = some (.int .i64 0) := b3.at_ 3 rfl
        have d4 : W3.cell? ⟨w.heap.size + 1, 4, none⟩ = some (.int .i64 0) := b3.at_ 4 rfl
        have df0 := b3.fr 0
        have df1 := b3.fr 1
        have df2 := b3.fr 2
        have df3 := b3.fr 3
        have df4 := b3.fr 4
        have g0 : W3.cell? ⟨w.heap.size + 1 + 1, 0, none⟩ = some (.string { data := #[] }) := b4.at_ 0 rfl
        have g1 : W3.cell? ⟨w.heap.size + 1 + 1, 1, none⟩ = some (.int .i64 0) := b4.at_ 1 rfl
        have g2 : W3.cell? ⟨w.heap.size + 1 + 1, 2, none⟩ = some (.bool false) := b4.at_ 2 rfl
        have gf0 := b4.fr 0
        have gf1 := b4.fr 1
        have gf2 := b4.fr 2
        have p3 := bfar3 (bk5 b3 (.int .i64 (cap1 : Int)) (.slice A1 F1.length c1) (.bool (!up1)) (.int .i64 (left1 : Int)) (.int .i64 keep1)) n34 (.string { data := #[] }) (.int .i64 0) (.bool false)
        have p4 := bk3 (bfar5 b4 n43 (.int .i64 (cap1 : Int)) (.slice A1 F1.length c1) (.bool (!up1)) (.int .i64 (left1 : Int)) (.int .i64 keep1)) (.string { data := #[] }) (.int .i64 0) (.bool false)
        have po := old3 (old5 o le3 (.int .i64 (cap1 : Int)) (.slice A1 F1.length c1) (.bool (!up1)) (.int .i64 (left1 : Int)) (.int .i64 keep1)) le4 (.string { data := #[] }) (.int .i64 0) (.bool false)
        have pf := far3 (HFL1.out.far5 b3 (by decide) (.int .i64 (cap1 : Int)) (.slice A1 F1.length c1) (.bool (!up1)) (.int .i64 (left1 : Int)) (.int .i64 keep1)) (bfar5 b4 n43 (.int .i64 (cap1 : Int)) (.slice A1 F1.length c1) (.bool (!up1)) (.int .i64 (left1 : Int)) (.int .i64 keep1)) (by decide) (.string { data := #[] }) (.int .i64 0) (.bool false)
        have HE := Lib.hid (show _ ∧ _ ∧ _ ∧ _ from ⟨po, p3, p4, pf⟩)
        clear b1 b3 b4 o po p3 p4 pf
        go_wp2
        obtain ⟨po, p3, p4, pf⟩ := HE.out
        generalize ((((((((W3.setCell ⟨w.heap.size + 1, 0, none⟩ (.int .i64 (cap1 : Int))).setCell ⟨w.heap.size + 1, 1, none⟩ (.slice A1 F1.length c1)).setCell ⟨w.heap.size + 1, 2, none⟩ (.bool (!up1))).setCell ⟨w.heap.size + 1, 3, none⟩ (.int .i64 (left1 : Int))).setCell ⟨w.heap.size + 1, 4, none⟩ (.int .i64 keep1)).setCell ⟨w.heap.size + 1 + 1, 0, none⟩ (.string { data := #[] })).setCell ⟨w.heap.size + 1 + 1, 1, none⟩ (.int .i64 0)).setCell ⟨w.heap.size + 1 + 1, 2, none⟩ (.bool false)) = WF at *
        have z0 : WF.cell? ⟨w.heap.size + 1, 0, none⟩ = some (.int .i64 (cap1 : Int)) := p3.at_ 0 rfl
        have z1 : WF.cell? ⟨w.heap.size + 1, 1, none⟩ = some (.slice A1 F1.length c1) := p3.at_ 1 rfl
        have z2 : WF.cell? ⟨w.heap.size + 1, 2, none⟩ = some (.bool (!up1)) := p3.at_ 2 rfl
        have z3 : WF.cell? ⟨w.heap.size + 1, 3, none⟩ = some (.int .i64 (left1 : Int)) := p3.at_ 3 rfl
        have z4 : WF.cell? ⟨w.heap.size + 1, 4, none⟩ = some (.int .i64 keep1) := p3.at_ 4 rfl
        have x0 : WF.cell? ⟨w.heap.size + 1 + 1, 0, none⟩ = some (.string { data := #[] }) := p4.at_ 0 rfl
        have x1 : WF.cell? ⟨w.heap.size + 1 + 1, 1, none⟩ = some (.int .i64 0) := p4.at_ 1 rfl
        have x2 : WF.cell? ⟨w.heap.size + 1 + 1, 2, none⟩ = some (.bool false) := p4.at_ 2 rfl
        refine bodyPost_ret (v := .tuple #[Rv (.slice A1 F1.length c1) ⟨cap1, F1, up1, left1, keep1⟩, .agg zeroLg, .slice none 0 0, .int .i64 E1]) (by simp [results, Tryd.results11, go_sem, z0, z1, z2, z3, z4, x0, x1, x2]) rfl ?_
        rw [HX.out]
        exact ⟨_, _, pf, po, .inr ⟨HNZ.out, rfl⟩⟩
  · have HR3 := Lib.hid (show R = ((rwrite x (s.take (took (allV s))) ⟨cap, F, up, left, keep⟩).1, allV s, (rwrite x (s.take (took (allV s))) ⟨cap, F, up, left, keep⟩).2) by rw [HR2.out, HFF.out, HTX.out, if_neg (fun h => by cases h.1)])
    clear HR2 HFF HTX HPE
    have y0 : w1.cell? ⟨w.heap.size, 0, none⟩ = some (.int .i64 (cap : Int)) := b1.at_ 0 rfl
    have y1 : w1.cell? ⟨w.heap.size, 1, none⟩ = some (.slice A F.length c) := b1.at_ 1 rfl
    have y2 : w1.cell? ⟨w.heap.size, 2, none⟩ = some (.bool (!up)) := b1.at_ 2 rfl
    have y3 : w1.cell? ⟨w.heap.size, 3, none⟩ = some (.int .i64 (left : Int)) := b1.at_ 3 rfl
    have y4 : w1.cell? ⟨w.heap.size, 4, none⟩ = some (.int .i64 keep) := b1.at_ 4 rfl
    go_wp2_with fail
    refine HA.out.mono ?_
    rintro e w2 ⟨TA, tc, rfl, hS, o2⟩
    have hS : OwnS w2 w.heap.size _ _ := row_base hS o.size
    have o := o.tr o2
    have b1 := b1.old o2
    have b3 := b3.old o2
    have b4 := b4.old o2
    have hf := HFL.out.old o2
    clear HA HFL y0 y1 y2 y3 y4 o2
    have HFL := Lib.hid hf
    clear hf
    have od : Old w2 w2.drew := (Old.re w2).dr
    have hul : (s.take (took (allV s))).length ≤ 1000000000000 := by rw [List.length_take]; omega
    have HC := rwrite_any A c ⟨cap, F, up, left, keep⟩ x (s.take (took (allV s))) HG.out hx hul w2.drew (HFL.out.old od)
    obtain ⟨R1, hR1⟩ : ∃ R1, R1 = rwrite x (s.take (took (allV s))) ⟨cap, F, up, left, keep⟩ := ⟨_, rfl⟩
    rw [← hR1] at HC HR3
    have HC := Lib.hid HC
    clear hR1 HG hul
    have xt : (B s).extract 0 (took (allV s)) = B (s.take (took (allV s))) := ext_take _ _
    have htI : ((took (allV s) : Nat) : Int) ≤ ((s.length : Nat) : Int) := by omega
    generalize s.take (took (allV s)) = u at *
    generalize took (allV s) = tk at *
    generalize allV s = T at *
    go_upto_region 9 with (fail)
    refine wp_region_noPanic ?_
    refine wp_region_held_drew (S := fun _ => True) (by kernel_rfl) trivial (fun hHeld => ?_)
    clear hHeld
    refine wpAnyH_take (i := 1) (oi := ?o201) (v := .string (B x)) ?h201 (by kernel_rfl) (by kernel_rfl) (by kernel_rfl) (fun _ _ _ h => h) ?y201 trivial ?r201
    case h201 => (simp only [List.getElem?_toArray, List.getElem?_cons_zero, List.getElem?_cons_succ]; rfl)
    case y201 => exact Or.inl ⟨by rfl, by (intro W hSw; clear hSw; go_simp)⟩
    simp only [Act.put, List.setIfInBounds_toArray, List.set_cons_zero, List.set_cons_succ]
    refine wpAnyH_take (i := 2) (oi := ?o202) (v := .string (B s)) ?h202 (by kernel_rfl) (by kernel_rfl) (by kernel_rfl) (fun _ _ _ h => h) ?y202 trivial ?r202
    case h202 => (simp only [List.getElem?_toArray, List.getElem?_cons_zero, List.getElem?_cons_succ]; rfl)
    case y202 => exact Or.inl ⟨by rfl, by (intro W hSw; clear hSw; go_simp)⟩
    simp only [Act.put, List.setIfInBounds_toArray, List.set_cons_zero, List.set_cons_succ]
    refine wpAnyH_take (i := 3) (oi := ?o203) (v := .int .i64 (tk : Int)) ?h203 (by kernel_rfl) (by kernel_rfl) (by kernel_rfl) (fun _ _ _ h => h) ?y203 trivial ?r203
    case h203 => (simp only [List.getElem?_toArray, List.getElem?_cons_zero, List.getElem?_cons_succ]; rfl)
    case y203 => exact Or.inl ⟨by rfl, by (intro W hSw; clear hSw; go_simp)⟩
    simp only [Act.put, List.setIfInBounds_toArray, List.set_cons_zero, List.set_cons_succ]
    refine wpAnyH_take (i := 4) (oi := ?o204) (v := .string (B u)) ?h204 (by kernel_rfl) (by kernel_rfl) (by kernel_rfl) (fun _ _ _ h => h) ?y204 trivial ?r204
    case h204 => (simp only [List.getElem?_toArray, List.getElem?_cons_zero, List.getElem?_cons_succ]; rfl)
    case y204 => exact Or.inl ⟨by rfl, by (intro W hSw; clear hSw; go_simp)⟩
    simp only [Act.put, List.setIfInBounds_toArray, List.set_cons_zero, List.set_cons_succ]
    have y0 : w2.drew.cell? ⟨w.heap.size, 0, none⟩ = some (.int .i64 (cap : Int)) := b1.at_ 0 rfl
    have y1 : w2.drew.cell? ⟨w.heap.size, 1, none⟩ = some (.slice A F.length c) := b1.at_ 1 rfl
    have y2 : w2.drew.cell? ⟨w.heap.size, 2, none⟩ = some (.bool (!up)) := b1.at_ 2 rfl
    have y3 : w2.drew.cell? ⟨w.heap.size, 3, none⟩ = some (.int .i64 (left : Int)) := b1.at_ 3 rfl
    have y4 : w2.drew.cell? ⟨w.heap.size, 4, none⟩ = some (.int .i64 keep) := b1.at_ 4 rfl
    refine wpAnyH_ready (rs := [0]) (by kernel_rfl) (by simp) ?_
    refine AllReadyH.cons rfl (fun K hK => ?_) AllReadyH.nil
    go_simp
    refine hK.out _ _ trivial (fun _ => ?_)
    clear hK y0 y1 y2 y3 y4
    refine wpAnyH_ready (rs := [5]) (by kernel_rfl) (by simp) ?_
    refine AllReadyH.cons rfl (fun K hK => ?_) AllReadyH.nil
    go_simp
    refine HC.out.mono ?_
    rintro e w3 ⟨A1, c1, rfl, hf, o1⟩
    have o1 := od.tr o1
    have o := o.tr o1
    have b1 := b1.old o1
    have b3 := b3.old o1
    have b4 := b4.old o1
    have hS := hS.old o1
    clear HC HFL o1
    obtain ⟨⟨cap1, F1, up1, left1, keep1⟩, E1⟩ := R1
    simp only at hf HR3
    refine hK.out _ _ trivial (fun _ => ?_)
    clear hK od
    refine wpAnyH_take (i := 6) (oi := ?o206) (v := .tuple #[Rv (.slice A1 F1.length c1) ⟨cap1, F1, up1, left1, keep1⟩, .int .i64 E1]) ?h206 (by kernel_rfl) (by kernel_rfl) (by kernel_rfl) (fun _ _ _ h => h) ?y206 trivial ?r206
    case h206 => (simp only [List.getElem?_toArray, List.getElem?_cons_zero, List.getElem?_cons_succ]; rfl)
    case y206 => exact Or.inl ⟨by rfl, by (intro W hSw; clear hSw; go_simp)⟩
    simp only [Act.put, List.setIfInBounds_toArray, List.set_cons_zero, List.set_cons_succ]
    refine wpAnyH_take (i := 7) (oi := ?o207) (v := Rv (.slice A1 F1.length c1) ⟨cap1, F1, up1, left1, keep1⟩) ?h207 (by kernel_rfl) (by kernel_rfl) (by kernel_rfl) (fun _ _ _ h => h) ?y207 trivial ?r207
    case h207 => (simp only [List.getElem?_toArray, List.getElem?_cons_zero, List.getElem?_cons_succ]; rfl)
    case y207 => exact Or.inl ⟨by rfl, by (intro W hSw; clear hSw; go_simp)⟩
    simp only [Act.put, List.setIfInBounds_toArray, List.set_cons_zero, List.set_cons_succ]
    refine wpAnyH_take (i := 8) (oi := ?o208) (v := .int .i64 E1) ?h208 (by kernel_rfl) (by kernel_rfl) (by kernel_rfl) (fun _ _ _ h => h) ?y208 trivial ?r208
    case h208 => (simp only [List.getElem?_toArray, List.getElem?_cons_zero, List.getElem?_cons_succ]; rfl)
    case y208 => exact Or.inl ⟨by rfl, by (intro W hSw; clear hSw; go_simp)⟩
    simp only [Act.put, List.setIfInBounds_toArray, List.set_cons_zero, List.set_cons_succ]
    have y0 : w3.cell? ⟨w.heap.size, 0, none⟩ = some (.int .i64 (cap : Int)) := b1.at_ 0 rfl
    have y1 : w3.cell? ⟨w.heap.size, 1, none⟩ = some (.slice A F.length c) := b1.at_ 1 rfl
    have y2 : w3.cell? ⟨w.heap.size, 2, none⟩ = some (.bool (!up)) := b1.at_ 2 rfl
    have y3 : w3.cell? ⟨w.heap.size, 3, none⟩ = some (.int .i64 (left : Int)) := b1.at_ 3 rfl
    have y4 : w3.cell? ⟨w.heap.size, 4, none⟩ = some (.int .i64 keep) := b1.at_ 4 rfl
    have yf0 := b1.fr 0
    have yf1 := b1.fr 1
    have yf2 := b1.fr 2
    have yf3 := b1.fr 3
    have yf4 := b1.fr 4
    have HH := Lib.hid (show _ ∧ _ ∧ _ ∧ _ ∧ _ ∧ _ from ⟨(((((o.st (p := ⟨w.heap.size, 0, none⟩) (Nat.le_refl _) (.int .i64 (cap1 : Int))).st (p := ⟨w.heap.size, 1, none⟩) (Nat.le_refl _) (.slice A1 F1.length c1)).st (p := ⟨w.heap.size, 2, none⟩) (Nat.le_refl _) (.bool (!up1))).st (p := ⟨w.heap.size, 3, none⟩) (Nat.le_refl _) (.int .i64 (left1 : Int))).st (p := ⟨w.heap.size, 4, none⟩) (Nat.le_refl _) (.int .i64 keep1)), (bk5 b1 (.int .i64 (cap1 : Int)) (.slice A1 F1.length c1) (.bool (!up1)) (.int .i64 (left1 : Int)) (.int .i64 keep1)), bfar5 b3 n31 (.int .i64 (cap1 : Int)) (.slice A1 F1.length c1) (.bool (!up1)) (.int .i64 (left1 : Int)) (.int .i64 keep1), bfar5 b4 n41 (.int .i64 (cap1 : Int)) (.slice A1 F1.length c1) (.bool (!up1)) (.int .i64 (left1 : Int)) (.int .i64 keep1), hf.far5 b1 (by decide) (.int .i64 (cap1 : Int)) (.slice A1 F1.length c1) (.bool (!up1)) (.int .i64 (left1 : Int)) (.int .i64 keep1), hS.bk fun g cs hb => bfar5 hb (Bk.ne hb b1 (by decide)) (.int .i64 (cap1 : Int)) (.slice A1 F1.length c1) (.bool (!up1)) (.int .i64 (left1 : Int)) (.int .i64 keep1)⟩)
    clear o b1 b3 b4 hf hS
    refine wpAnyH_ready (rs := [9]) (by kernel_rfl) (by simp) ?_
    refine AllReadyH.cons rfl (fun K hK => ?_) AllReadyH.nil
    go_simp
    refine hK.out _ _ trivial (fun _ => ?_)
    clear hK y0 y1 y2 y3 y4 yf0 yf1 yf2 yf3 yf4
    refine wpAnyH_take (i := 10) (oi := ?o210) (v := .int .i64 E1) ?h210 (by kernel_rfl) (by kernel_rfl) (by kernel_rfl) (fun _ _ _ h => h) ?y210 trivial ?r210
    case h210 => (simp only [List.getElem?_toArray, List.getElem?_cons_zero, List.getElem?_cons_succ]; rfl)
    case y210 => exact Or.inl ⟨by rfl, by (intro W hSw; clear hSw; go_simp)⟩
    simp only [Act.put, List.setIfInBounds_toArray, List.set_cons_zero, List.set_cons_succ]
    refine wpAnyH_done (by kernel_rfl) ?_ _
    refine NoPanic.normal ?_
    obtain ⟨o, b1, b3, b4, hf, hS⟩ := HH.out
    clear HH
    generalize (((((w3.setCell ⟨w.heap.size, 0, none⟩ (.int .i64 (cap1 : Int))).setCell ⟨w.heap.size, 1, none⟩ (.slice A1 F1.length c1)).setCell ⟨w.heap.size, 2, none⟩ (.bool (!up1))).setCell ⟨w.heap.size, 3, none⟩ (.int .i64 (left1 : Int))).setCell ⟨w.heap.size, 4, none⟩ (.int .i64 keep1)) = W3 at *
    have HFL1 := Lib.hid hf
    have HS := Lib.hid hS
    clear hf hS
    by_cases hz : E1 = 0
    · subst hz
      have HX := Lib.hid (show R = (⟨cap1, F1, up1, left1, keep1⟩, T, 0) from HR3.out)
      clear HR3
      have y0 : W3.cell? ⟨w.heap.size, 0, none⟩ = some (.int .i64 (cap1 : Int)) := b1.at_ 0 rfl
      have y1 : W3.cell? ⟨w.heap.size, 1, none⟩ = some (.slice A1 F1.length c1) := b1.at_ 1 rfl
      have y2 : W3.cell? ⟨w.heap.size, 2, none⟩ = some (.bool (!up1)) := b1.at_ 2 rfl
      have y3 : W3.cell? ⟨w.heap.size, 3, none⟩ = some (.int .i64 (left1 : Int)) := b1.at_ 3 rfl
      have y4 : W3.cell? ⟨w.heap.size, 4, none⟩ = some (.int .i64 keep1) := b1.at_ 4 rfl
      have d0 : W3.cell? ⟨w.heap.size + 1, 0, none⟩ = some (.int .i64 0) := b3.at_ 0 rfl
      have d1 : W3.cell? ⟨w.heap.size + 1, 1, none⟩ = some (.slice none 0 0) := b3.at_ 1 rfl
      have d2 : W3.cell? ⟨w.heap.size + 1, 2, none⟩ = some (.bool false) := b3.at_ 2 rfl
      have d3 : W3.cell? ⟨w.heap.size + 1, 3, none⟩ = some (.int .i64 0) := b3.at_ 3 rfl
      have d4 : W3.cell? ⟨w.heap.size + 1, 4, none⟩ = some (.int .i64 0) := b3.at_ 4 rfl
      have df0 := b3.fr 0
      have df1 := b3.fr 1
      have df2 := b3.fr 2
      have df3 := b3.fr 3
      have df4 := b3.fr 4
      have g0 : W3.cell? ⟨w.heap.size + 1 + 1, 0, none⟩ = some (.string { data := #[] }) := b4.at_ 0 rfl
      have g1 : W3.cell? ⟨w.heap.size + 1 + 1, 1, none⟩ = some (.int .i64 0) := b4.at_ 1 rfl
      have g2 : W3.cell? ⟨w.heap.size + 1 + 1, 2, none⟩ = some (.bool false) := b4.at_ 2 rfl
      have gf0 := b4.fr 0
      have gf1 := b4.fr 1
      have gf2 := b4.fr 2
      have p3 := bfar3 (bk5 b3 (.int .i64 (cap1 : Int)) (.slice A1 F1.length c1) (.bool (!up1)) (.int .i64 (left1 : Int)) (.int .i64 keep1)) n34 (.string (B x)) (.int .i64 (T.length : Int)) (.bool false)
      have p4 := bk3 (bfar5 b4 n43 (.int .i64 (cap1 : Int)) (.slice A1 F1.length c1) (.bool (!up1)) (.int .i64 (left1 : Int)) (.int .i64 keep1)) (.string (B x)) (.int .i64 (T.length : Int)) (.bool false)
      have po := old3 (old5 o le3 (.int .i64 (cap1 : Int)) (.slice A1 F1.length c1) (.bool (!up1)) (.int .i64 (left1 : Int)) (.int .i64 keep1)) le4 (.string (B x)) (.int .i64 (T.length : Int)) (.bool false)
      have pf := far3 (HFL1.out.far5 b3 (by decide) (.int .i64 (cap1 : Int)) (.slice A1 F1.length c1) (.bool (!up1)) (.int .i64 (left1 : Int)) (.int .i64 keep1)) (bfar5 b4 n43 (.int .i64 (cap1 : Int)) (.slice A1 F1.length c1) (.bool (!up1)) (.int .i64 (left1 : Int)) (.int .i64 keep1)) (by decide) (.string (B x)) (.int .i64 (T.length : Int)) (.bool false)
      have ps := HS.out.bk fun g cs hb => bfar3 (bfar5 hb (Bk.ne hb b3 (by decide)) (.int .i64 (cap1 : Int)) (.slice A1 F1.length c1) (.bool (!up1)) (.int .i64 (left1 : Int)) (.int .i64 keep1)) (Bk.ne hb b4 (by decide)) (.string (B x)) (.int .i64 (T.length : Int)) (.bool false)
      have HE := Lib.hid (show _ ∧ _ ∧ _ ∧ _ ∧ _ from ⟨po, p3, p4, pf, ps⟩)
      clear b1 b3 b4 o po p3 p4 pf ps
      go_wp2
      obtain ⟨po, p3, p4, pf, ps⟩ := HE.out
      generalize ((((((((W3.setCell ⟨w.heap.size + 1, 0, none⟩ (.int .i64 (cap1 : Int))).setCell ⟨w.heap.size + 1, 1, none⟩ (.slice A1 F1.length c1)).setCell ⟨w.heap.size + 1, 2, none⟩ (.bool (!up1))).setCell ⟨w.heap.size + 1, 3, none⟩ (.int .i64 (left1 : Int))).setCell ⟨w.heap.size + 1, 4, none⟩ (.int .i64 keep1)).setCell ⟨w.heap.size + 1 + 1, 0, none⟩ (.string (B x))).setCell ⟨w.heap.size + 1 + 1, 1, none⟩ (.int .i64 (T.length : Int))).setCell ⟨w.heap.size + 1 + 1, 2, none⟩ (.bool false)) = WF at *
      have z0 : WF.cell? ⟨w.heap.size + 1, 0, none⟩ = some (.int .i64 (cap1 : Int)) := p3.at_ 0 rfl
      have z1 : WF.cell? ⟨w.heap.size + 1, 1, none⟩ = some (.slice A1 F1.length c1) := p3.at_ 1 rfl
      have z2 : WF.cell? ⟨w.heap.size + 1, 2, none⟩ = some (.bool (!up1)) := p3.at_ 2 rfl
      have z3 : WF.cell? ⟨w.heap.size + 1, 3, none⟩ = some (.int .i64 (left1 : Int)) := p3.at_ 3 rfl
      have z4 : WF.cell? ⟨w.heap.size + 1, 4, none⟩ = some (.int .i64 keep1) := p3.at_ 4 rfl
      have x0 : WF.cell? ⟨w.heap.size + 1 + 1, 0, none⟩ = some (.string (B x)) := p4.at_ 0 rfl
      have x1 : WF.cell? ⟨w.heap.size + 1 + 1, 1, none⟩ = some (.int .i64 (T.length : Int)) := p4.at_ 1 rfl
      have x2 : WF.cell? ⟨w.heap.size + 1 + 1, 2, none⟩ = some (.bool false) := p4.at_ 2 rfl
      refine bodyPost_ret (v := .tuple #[Rv (.slice A1 F1.length c1) ⟨cap1, F1, up1, left1, keep1⟩, Rlv x (T.length : Int) false, .slice TA T.length tc, .int .i64 0]) (by simp [results, Tryd.results11, go_sem, z0, z1, z2, z3, z4, x0, x1, x2]) rfl ?_
      rw [HX.out]
      exact ⟨_, _, pf, po, .inl ⟨rfl, TA, tc, rfl, ps, HSM.out, HTL.out⟩⟩
    · have hzb : (E1 != 0) = true := by simpa using hz
      have HX := Lib.hid (show R = (⟨cap1, F1, up1, left1, keep1⟩, T, E1) from HR3.out)
      have HNZ := Lib.hid hz
      clear HR3 hz
      have y0 : W3.cell? ⟨w.heap.size, 0, none⟩ = some (.int .i64 (cap1 : Int)) := b1.at_ 0 rfl
      have y1 : W3.cell? ⟨w.heap.size, 1, none⟩ = some (.slice A1 F1.length c1) := b1.at_ 1 rfl
      have y2 : W3.cell? ⟨w.heap.size, 2, none⟩ = some (.bool (!up1)) := b1.at_ 2 rfl
      have y3 : W3.cell? ⟨w.heap.size, 3, none⟩ = some (.int .i64 (left1 : Int)) := b1.at_ 3 rfl
      have y4 : W3.cell? ⟨w.heap.size, 4, none⟩ = some (.int .i64 keep1) := b1.at_ 4 rfl
      have d0 : W3.cell? ⟨w.heap.size + 1, 0, none⟩ = some (.int .i64 0) := b3.at_ 0 rfl
      have d1 : W3.cell? ⟨w.heap.size + 1, 1, none⟩ = some (.slice none 0 0) := b3.at_ 1 rfl
      have d2 : W3.cell? ⟨w.heap.size + 1, 2, none⟩ = some (.bool false) := b3.at_ 2 rfl
      have d3 : W3.cell? ⟨w.heap.size + 1, 3, none⟩ = some (.int .i64 0) := b3.at_ 3 rfl
      have d4 : W3.cell? ⟨w.heap.size + 1, 4, none⟩ = some (.int .i64 0) := b3.at_ 4 rfl
      have df0 := b3.fr 0
      have df1 := b3.fr 1
      have df2 := b3.fr 2
      have df3 := b3.fr 3
      have df4 := b3.fr 4
      have g0 : W3.cell? ⟨w.heap.size + 1 + 1, 0, none⟩ = some (.string { data := #[] }) := b4.at_ 0 rfl
      have g1 : W3.cell? ⟨w.heap.size + 1 + 1, 1, none⟩ = some (.int .i64 0) := b4.at_ 1 rfl
      have g2 : W3.cell? ⟨w.heap.size + 1 + 1, 2, none⟩ = some (.bool false) := b4.at_ 2 rfl
      have gf0 := b4.fr 0
      have gf1 := b4.fr 1
      have gf2 := b4.fr 2
      have p3 := bfar3 (bk5 b3 (.int .i64 (cap1 : Int)) (.slice A1 F1.length c1) (.bool (!up1)) (.int .i64 (left1 : Int)) (.int .i64 keep1)) n34 (.string { data := #[] }) (.int .i64 0) (.bool false)
      have p4 := bk3 (bfar5 b4 n43 (.int .i64 (cap1 : Int)) (.slice A1 F1.length c1) (.bool (!up1)) (.int .i64 (left1 : Int)) (.int .i64 keep1)) (.string { data := #[] }) (.int .i64 0) (.bool false)
      have po := old3 (old5 o le3 (.int .i64 (cap1 : Int)) (.slice A1 F1.length c1) (.bool (!up1)) (.int .i64 (left1 : Int)) (.int .i64 keep1)) le4 (.string { data := #[] }) (.int .i64 0) (.bool false)
      have pf := far3 (HFL1.out.far5 b3 (by decide) (.int .i64 (cap1 : Int)) (.slice A1 F1.length c1) (.bool (!up1)) (.int .i64 (left1 : Int)) (.int .i64 keep1)) (bfar5 b4 n43 (.int .i64 (cap1 : Int)) (.slice A1 F1.length c1) (.bool (!up1)) (.int .i64 (left1 : Int)) (.int .i64 keep1)) (by decide) (.string { data := #[] }) (.int .i64 0) (.bool false)
      have HE := Lib.hid (show _ ∧ _ ∧ _ ∧ _ from ⟨po, p3, p4, pf⟩)
      clear b1 b3 b4 o po p3 p4 pf
      go_wp2
      obtain ⟨po, p3, p4, pf⟩ := HE.out
      generalize ((((((((W3.setCell ⟨w.heap.size + 1, 0, none⟩ (.int .i64 (cap1 : Int))).setCell ⟨w.heap.size + 1, 1, none⟩ (.slice A1 F1.length c1)).setCell ⟨w.heap.size + 1, 2, none⟩ (.bool (!up1))).setCell ⟨w.heap.size + 1, 3, none⟩ (.int .i64 (left1 : Int))).setCell ⟨w.heap.size + 1, 4, none⟩ (.int .i64 keep1)).setCell ⟨w.heap.size + 1 + 1, 0, none⟩ (.string { data := #[] })).setCell ⟨w.heap.size + 1 + 1, 1, none⟩ (.int .i64 0)).setCell ⟨w.heap.size + 1 + 1, 2, none⟩ (.bool false)) = WF at *
      have z0 : WF.cell? ⟨w.heap.size + 1, 0, none⟩ = some (.int .i64 (cap1 : Int)) := p3.at_ 0 rfl
      have z1 : WF.cell? ⟨w.heap.size + 1, 1, none⟩ = some (.slice A1 F1.length c1) := p3.at_ 1 rfl
      have z2 : WF.cell? ⟨w.heap.size + 1, 2, none⟩ = some (.bool (!up1)) := p3.at_ 2 rfl
      have z3 : WF.cell? ⟨w.heap.size + 1, 3, none⟩ = some (.int .i64 (left1 : Int)) := p3.at_ 3 rfl
      have z4 : WF.cell? ⟨w.heap.size + 1, 4, none⟩ = some (.int .i64 keep1) := p3.at_ 4 rfl
      have x0 : WF.cell? ⟨w.heap.size + 1 + 1, 0, none⟩ = some (.string { data := #[] }) := p4.at_ 0 rfl
      have x1 : WF.cell? ⟨w.heap.size + 1 + 1, 1, none⟩ = some (.int .i64 0) := p4.at_ 1 rfl
      have x2 : WF.cell? ⟨w.heap.size + 1 + 1, 2, none⟩ = some (.bool false) := p4.at_ 2 rfl
      refine bodyPost_ret (v := .tuple #[Rv (.slice A1 F1.length c1) ⟨cap1, F1, up1, left1, keep1⟩, .agg zeroLg, .slice none 0 0, .int .i64 E1]) (by simp [results, Tryd.results11, go_sem, z0, z1, z2, z3, z4, x0, x1, x2]) rfl ?_
      rw [HX.out]
      exact ⟨_, _, pf, po, .inr ⟨HNZ.out, rfl⟩⟩
end Go.Proofs.YtilimfbjkgeciaaDoor
