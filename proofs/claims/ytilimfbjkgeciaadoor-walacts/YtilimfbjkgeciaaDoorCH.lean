/-
  Texts in one: CStrs CAll CSame. Conditions: as each theorem writes them.
-/
import Derived.Test.YtilimfbjkgeciaaDoorCPut
import Derived.RangeFuncNested
import Derived.RangeFuncBound
import Derived.RangeFuncCalls
import Derived.RangeFuncLeaves
import Derived.RangeFuncBox
import Derived.Shelf.Abstract
import Derived.Shelf.RegionOpen
import Derived.OwnWalkIn
import Derived.TacticsInMore
import Derived.LoopNIn
import Derived.LoopIn
import Derived.Maps.AppendAt
namespace Go.Proofs.YtilimfbjkgeciaaDoor
set_option maxRecDepth 100000
open Go.RowKit

theorem kept_cell {W w1 : World} (hb : Old W w1) (g o : Nat) (h : g < W.heap.size) : w1.cell? ⟨g, o, none⟩ = W.cell? ⟨g, o, none⟩ := hb.cell (p := ⟨g, o, none⟩) h
end Go.Proofs.YtilimfbjkgeciaaDoor

namespace Go.Proofs.YtilimfbjkgeciaaDoor
set_option maxRecDepth 100000
open Go.RowKit Go.Shelf

attribute [local go_sem] Oper.semAt_some

theorem getV_ok {l : List UInt8} (h : (getV l).2.2 = 0) : (getV l).2.1 = 6 + (getV l).1.length ∧ 6 + (getV l).1.length ≤ l.length ∧ (getV l).1.length ≤ 65535 := by
  unfold getV at h ⊢
  split at h
  · cases h
  split at h
  · cases h
  split at h
  · cases h
  split at h
  · rename_i h1 h2 h3 h4
    rw [if_neg h1, if_neg h2, if_neg h3, if_pos h4]
    have h5 := lowV_lt (l.take 2)
    have h6 : (l.take 2).length = 2 := by simp; omega
    rw [h6] at h5
    simp only [List.length_take, List.length_drop]
    omega
  · cases h

/-- The texts that were c_put one behind the other, up to the first that is none. -/
def allV (l : List UInt8) : List (List UInt8) := if _h : (getV l).2.2 = 0 then (getV l).1 :: allV (l.drop (6 + (getV l).1.length)) else []
termination_by l.length
decreasing_by
  have := getV_ok _h
  simp only [List.length_drop]
  omega
theorem allV_yes {l : List UInt8} (h : (getV l).2.2 = 0) : allV l = (getV l).1 :: allV (l.drop (6 + (getV l).1.length)) := by rw [allV, dif_pos h]
theorem allV_no {l : List UInt8} (h : ¬ (getV l).2.2 = 0) : allV l = [] := by rw [allV, dif_neg h]
/-- How many bytes they take. -/
def took (l : List (List UInt8)) : Nat := (l.map fun t => 6 + t.length).sum
theorem took_snoc (l : List (List UInt8)) (t : List UInt8) : took (l ++ [t]) = took l + (6 + t.length) := by simp [took]
theorem getR_yes {l : List UInt8} (h : (getV l).2.2 = 0) : getR l = .tuple #[.string (B (getV l).1), .int .i64 (6 + ((getV l).1.length : Int)), .int .i64 0] := by
  unfold getR
  rw [h, (getV_ok h).1]
  rfl

/-- A text that can be c_put. -/
abbrev Txt := { t : List UInt8 // t.length ≤ 65535 }
def txts (l : List Txt) : List (List UInt8) := l.map (·.1)
theorem txts_snoc (l : List Txt) (x : Txt) : txts (l ++ [x]) = txts l ++ [x.1] := by simp [txts]
theorem txts_len (l : List Txt) : (txts l).length = l.length := by simp [txts]
abbrev encT (x : Txt) : Array Value := #[.string (B x.1), .int .i64 (6 + (x.1.length : Int))]
def strLen : Value → Nat
  | .string b => b.size
  | _ => 0

theorem J_drawn {J : List Txt → World → Prop} {b : Nat} (hJ : AbidesFrom b J) {pre : List Txt} {w w' : World} (h : J pre w) (hd : Drawn w w') : J pre w' := by
  obtain ⟨n, rfl⟩ := hd
  exact hJ pre w _ none h ⟨rfl, rfl, rfl, Nat.le_refl _, fun _ _ _ => rfl⟩ (fun r e => by cases e)

set_option maxRecDepth 100000 in
set_option maxHeartbeats 2000000 in
theorem each1_in (n : Nat) (hn : 1 ≤ n) (l Bn n₀ B0 : Nat) (s : List UInt8) (hs : s.length ≤ 1000000) (hn0 : 0 < n₀) (J Jx : List Txt → World → Prop) (hJ : AbidesFrom B0 J)
    (hY : ∀ pre x W, J pre W → pre.length < (allV s).length → YieldAt Fence.wide (n - 1) Tryd.prog l (encT x) W fun e W' =>
      (e = .returned (.bool true) ∧ J (pre ++ [x]) W' ∧ Below n₀ W W') ∨ (e = .returned (.bool false) ∧ Jx (pre ++ [x]) W'))
    (W : World) (hBn : W.cell? ⟨Bn, 0, none⟩ = some (.string (B s))) (ht : Tab W) (h0 : J [] W) :
    CallsIn Fence.wide n Tryd.prog 72 #[.func (.yield l) #[] #[], .pointer (some ⟨Bn, 0, none⟩)] W fun e W' => (∃ v, e = .returned v) ∧
      ((∃ ys : List Txt, txts ys = allV s ∧ J ys W') ∨ (∃ pre : List Txt, True ∧ Jx pre W')) := by
  refine callsIn_of_wp Tryd.func72 rfl trivial ?_ rfl
  simp only [Tryd.ntmps72, List.size_toArray, List.length_cons, List.length_nil, Nat.reduceAdd, Nat.reduceSub, Array.replicate_succ, Array.replicate_zero, List.push_toArray, List.append_toArray, List.nil_append, List.cons_append]
  gi_wp2
  gi_loopw [3] (fun v wr => ∃ (pre : List Txt) (rest : List UInt8), v = .string (B rest) ∧ rest.length ≤ 1000000 ∧ allV s = txts pre ++ allV rest ∧ J pre wr ∧ Tab wr)
    (fun v _ => strLen v)
  case atStart => exact ⟨[], s, rfl, hs, rfl, h0, ht⟩
  case round =>
    obtain ⟨pre, rest, rfl, hr, hx, hJs, hts⟩ := hrel
    by_cases hg : (getV rest).2.2 = 0
    · obtain ⟨-, hle, h16⟩ := getV_ok hg
      have hv := getV_ok hg
      have HR := Lib.hid (getR_yes hg)
      have HA := Lib.hid (allV_yes hg)
      generalize (getV rest).1 = t at *
      gi_wp2_with fail
      refine ⟨trivial, (callsIn_wide.2 (get_any rest hr _ hts)).mono ?_⟩
      rintro e w1 ⟨rfl, hd⟩
      rw [HR.out]
      have hJ1 := J_drawn hJ hJs hd
      have ht1 := hts.old hd.old
      clear hd hJs hts
      obtain ⟨fn, tmps, assign, body, hy, hR⟩ := hY pre ⟨t, h16⟩ w1 hJ1 (by rw [hx, HA.out]; simp [txts_len])
      dsimp only [encT] at hy
      have xd : (B rest).extract (6 + t.length) rest.length = B (rest.drop (6 + t.length)) := ext_drop _ _ _ (Nat.le_refl _)
      gi_wp2_with fail
      refine hR.mono ?_
      rintro e W3 (⟨rfl, hJ3, hk3⟩ | ⟨rfl, hJx3⟩)
      · gi_wp2
        refine ⟨⟨pre ++ [⟨t, h16⟩], rest.drop (6 + t.length), by rw [xd], by simp; omega, ?_, hJ3, ht1.below hk3 hn0⟩, ?_⟩
        · rw [hx, HA.out, txts_snoc]; simp
        · rw [xd]; simp [strLen, ByteArray.size]; omega
      · gi_wp2
        refine bodyPost_ret (results_none rfl _ _ _) rfl ?_
        exact ⟨⟨_, rfl⟩, .inr ⟨pre ++ [⟨t, h16⟩], trivial, hJx3⟩⟩
    · have hg2 : (((getV rest).2.2 : Nat) : Int) ≠ 0 := by omega
      have HR := Lib.hid (show getR rest = .tuple #[.string (B (getV rest).1), .int .i64 ((getV rest).2.1 : Nat), .int .i64 ((getV rest).2.2 : Nat)] from rfl)
      have HA := Lib.hid (allV_no hg)
      generalize ((getV rest).2.2 : Int) = e1 at *
      have hg3 : (e1 != 0) = true := by simpa using hg2
      gi_wp2_with fail
      refine ⟨trivial, (callsIn_wide.2 (get_any rest hr _ hts)).mono ?_⟩
      rintro e w1 ⟨rfl, hd⟩
      rw [HR.out]
      gi_wp2
      refine ⟨fun _ h => (by cases h), ?_⟩
      gi_wp2
      refine bodyPost_ret (results_none rfl _ _ _) rfl ?_
      exact ⟨⟨_, rfl⟩, .inl ⟨pre, by rw [hx, HA.out]; simp, J_drawn hJ hJs hd⟩⟩

set_option maxHeartbeats 1000000 in
theorem each_in (n : Nat) (s : List UInt8) (w : World) :
    CallsIn Fence.wide n Tryd.prog 50 #[.string (B s)] w fun e w' => e = .returned (.func (.func 72) #[] #[.pointer (some ⟨w.heap.size, 0, none⟩)]) ∧ w' = w.alloc (.cells #[.string (B s)] 9) := by
  refine callsIn_of_wp Tryd.func50 rfl trivial ?_ rfl
  simp only [Tryd.ntmps50, List.size_toArray, List.length_cons, List.length_nil, Nat.reduceAdd, Nat.reduceSub, Array.replicate_succ, Array.replicate_zero, List.push_toArray, List.append_toArray, List.nil_append, List.cons_append]
  gi_wp2
  go_ret
  exact ⟨rfl, rfl⟩

theorem each_stops (n : Nat) (hn : 1 ≤ n) (Bn n₀ : Nat) (s : List UInt8) (hs : s.length ≤ 1000000) (w : World) (hBn : Bn < w.heap.size) (hn₀ : 0 < n₀)
    (hc : w.cell? ⟨Bn, 0, none⟩ = some (.string (B s))) (ht : Tab w) :
    SeqStopsK Fence.wide n Tryd.prog 72 #[.pointer (some ⟨Bn, 0, none⟩)] encT (Below n₀) (fun ys => txts ys = allV s) (fun _ => True) (allV s).length w := fun l J Jx W hW hJ _ hY h0 =>
  each1_in n hn l Bn n₀ W.heap.size s hs hn₀ J Jx hJ hY W ((hW.cell (p := ⟨Bn, 0, none⟩) hBn).trans hc) (ht.old hW) h0

theorem Tryd.infoStr : (Tryd.prog.info? 9).map (fun i => (i.zero, i.size, i.bytes)) = some (some (.string ByteArray.empty), 1, 16) := by kernel_rfl
/-- Texts as cells. -/
def ts (l : List (List UInt8)) : List Value := l.map fun t => .string (B t)
def tsX (l : List Txt) : List Value := ts (txts l)
theorem tsX_snoc (l : List Txt) (x : Txt) : tsX (l ++ [x]) = tsX l ++ [.string (B x.1)] := by simp [tsX, ts, txts_snoc]
theorem took_le (l : List Txt) : took (txts l) ≤ l.length * 65541 := by
  induction l with
  | nil => simp [took, txts]
  | cons x l ih =>
    have := x.2
    simp only [took, txts, List.map_cons, List.sum_cons, List.length_cons] at *
    omega
theorem allV_len (l : List UInt8) : 6 * (allV l).length ≤ l.length := by
  induction h : l.length using Nat.strongRecOn generalizing l with
  | _ n ih =>
    by_cases hg : (getV l).2.2 = 0
    · rw [allV_yes hg]
      obtain ⟨-, h1, -⟩ := getV_ok hg
      have := ih (l.drop (6 + (getV l).1.length)).length (by simp; omega) _ rfl
      simp only [List.length_cons, List.length_drop] at *
      omega
    · rw [allV_no hg]; simp

set_option maxRecDepth 100000 in
set_option maxHeartbeats 2000000 in
theorem all_in (n : Nat) (hn : 3 ≤ n) (s : List UInt8) (hs : s.length ≤ 1000000) (w : World) (ht : Tab w) :
    CallsIn Fence.wide n Tryd.prog 29 #[.string (B s)] w fun e W' => ∃ v, e = .returned (.tuple #[v, .int .i64 (took (allV s) : Nat)]) ∧ W'.ownsRow w.heap.size 9 1 v (allV s).length (ts (allV s)) ∧ Below w.heap.size w W' := by
  have h1 : 1 ≤ n := by omega
  have hal := allV_len s
  obtain ⟨i0, hi, hz0, hz1, hz2⟩ := info_parts Tryd.infoStr
  refine callsIn_of_wp_marks Tryd.func29 rfl trivial ?_ rfl
  simp only [Tryd.ntmps29, List.size_toArray, List.length_cons, List.length_nil, Nat.reduceAdd, Nat.reduceSub, Array.replicate_succ, Array.replicate_zero, List.push_toArray, List.append_toArray, List.nil_append, List.cons_append]
  gi_wp2_with (refine ⟨trivial, ?_⟩; gi_at_call 50; refine (each_in (n - 1) s _).mono ?_; rintro e w' ⟨rfl, rfl⟩)
  have hpos := ht.1
  have bO := ((Boxed.new w 31 (.slice none 0 0)).alloc (.cells #[.int .i64 0] 3)).alloc (.cells #[.string (B s)] 9)
  have bT := (Boxed.new (w.alloc (.cells #[.slice none 0 0] 31)) 3 (.int .i64 0)).alloc (.cells #[.string (B s)] 9)
  have bS := Boxed.new ((w.alloc (.cells #[.slice none 0 0] 31)).alloc (.cells #[.int .i64 0] 3)) 9 (.string (B s))
  rw [World.size_alloc] at bT
  rw [World.size_alloc, World.size_alloc] at bS
  have hB0 : Below w.heap.size w (((w.alloc (.cells #[.slice none 0 0] 31)).alloc (.cells #[.int .i64 0] 3)).alloc (.cells #[.string (B s)] 9)) := (((Below.refl _ w).alloc (Nat.le_refl _) _).alloc (by simp) _).alloc (by simp; omega) _
  refine wpIn_rangeFunc_ownG rfl h1 (gf := 72) (lb := #[.pointer (some ⟨w.heap.size + 1 + 1, 0, none⟩)]) rfl trivial (enters_of Tryd.func72 (by kernel_rfl) rfl)
    (each_stops (n - 1) (by omega) (w.heap.size + 1 + 1) w.heap.size s hs _ (by simp) hpos bS.cell (ht.old hB0)) belowK_t (belowK_b (by simp; omega)) (Below.refl _ _) (fun _ => rfl)
    (fun pre W => ((∃ v, Boxed W w.heap.size 31 v ∧ W.ownsRow w.heap.size 9 1 v pre.length (tsX pre) ∧ True) ∧ Boxed W (w.heap.size + 1) 3 (.int .i64 (took (txts pre) : Nat))) ∧ Below w.heap.size w W)
    (fun _ _ _ => False)
    (OwnFrom.and (OwnFrom.and (Own.from (holdsRow_own w.heap.size w.heap.size 31 9 1 (fun pre : List Txt => pre.length) (fun pre => tsX pre) (fun _ _ => True)) _) (Own.from (boxed_own (w.heap.size + 1) 3 (fun pre : List Txt => .int .i64 (took (txts pre) : Nat))) _)) (ownFrom_below (Nat.le_refl _) (by simp; omega)))
    (fun _ _ _ _ _ hs _ _ => hs)
    ⟨⟨⟨_, bO, World.ownsRow_nil _ _ _ _, trivial⟩, bT⟩, hB0⟩
    (fun x => { tmps := #[.string (B s), undef, .slice none 0 0, .int .i64 0, .pointer (some ⟨w.heap.size, 0, none⟩), .pointer (some ⟨w.heap.size + 1, 0, none⟩), .string (B x.1), .int .i64 (6 + (x.1.length : Int)), .string (B s), .func (.func 72) #[] #[.pointer (some ⟨w.heap.size + 1 + 1, 0, none⟩)], .string (B x.1), .int .i64 (6 + (x.1.length : Int)), undef, undef, undef, undef, undef, undef, undef, undef, undef], defers := [] }) ?assign ?body ?done ?stop
  case assign =>
    intro l x W K hK
    gi_wp2
    exact hK
  case body =>
    rintro l pre x W ⟨⟨⟨v, hv, hrow, -⟩, hT⟩, hB⟩ hlt
    have hc := hv.cell
    have hx2 := x.2
    have htk := took_le pre
    gi_wp2_with (gi_at_builtin; refine wpListIn_append_own _ rfl _ _ 31 rfl w.heap.size 9 i0 (.string ByteArray.empty) 1 16 Tryd.underlying31 hi hz0 hz1 hz2 rfl (by decide) _ _ _ rfl (hrow.alloc _) ⟨W.heap.size, 0, none⟩ 1 1 [.string (B x.1)] rfl rfl (cell_one_new _ _ _) (by simp [Value.oneCell']) (by unfold maxLen; omega) (by omega) (by have := hB.size; simp; omega) ?_; intro v' w1 hown' hgrow _; obtain ⟨g', cap', rfl⟩ := ownsRow_succ hown'; obtain ⟨hv1, hv2, hr2, hk2, hb2⟩ := hv.appended (by decide) hrow hB.size (Nat.le_refl _) hown' hgrow; have hc1 := hv1.cell; have hf1 := hv1.frozen; have hT2 := ((hT.alloc _).kept hgrow (hT.not_row (by decide) hrow)).other (B' := w.heap.size) (by omega) (.slice (some ⟨g', 0, none⟩) (pre.length + 1) cap'); have hcT := hT2.cell; have hfT := hT2.frozen)
    have hr3 := hr2.kept (grownBy_setCell' _ (w.heap.size + 1) (.int .i64 ((took (txts (pre ++ [x])) : Nat) : Int))) (.inr (hT2.not_row (by decide) hr2).symm)
    have hb3 : Below w.heap.size W (((w1.setCell ⟨w.heap.size, 0, none⟩ (.slice (some ⟨g', 0, none⟩) (pre.length + 1) cap'))).setCell ⟨w.heap.size + 1, 0, none⟩ (.int .i64 ((took (txts (pre ++ [x])) : Nat) : Int))) := hb2.setCell (p := ⟨w.heap.size + 1, 0, none⟩) (by simp) _
    rw [show ((took (txts pre) : Nat) : Int) + (6 + (x.1.length : Int)) = ((took (txts (pre ++ [x])) : Nat) : Int) by rw [txts_snoc, took_snoc]; omega]
    refine ⟨(hk2.trans (KeepsOthers.setCell _ _ _)).from _, hb3, ⟨⟨_, hv2.other (by omega) _, ?_, trivial⟩, hT2.set _⟩, hB.trans hb3⟩
    rw [tsX_snoc]
    simpa using hr3
  case done =>
    rintro D ys W hD hys ⟨⟨⟨v, hv, hrow, -⟩, hT⟩, hB⟩ hK
    have hc := hv.cell
    have hcT := hT.cell
    gi_wp2
    gi_region
    all_goals gi_wp2
    all_goals refine ⟨by simp, .inl ⟨_, _, rfl, run_takeDeferred hK, ?_⟩⟩
    all_goals exact ⟨_, results_tmp2 rfl _ _ _, v, rfl, by rw [← hys, txts_len]; exact ownsRow_putObj (W := W.drew) hrow _ hK rfl, hB.trans ((Below.refl _ W).drew.trans (belowK_b (w := w) (Nat.le_refl _) W.drew D _ _ (by simp at hD; omega) hK rfl rfl))⟩
  case stop =>
    rintro D c pre W _ _ h _
    exact h.elim
end Go.Proofs.YtilimfbjkgeciaaDoor

namespace Go.Proofs.YtilimfbjkgeciaaDoor
set_option maxRecDepth 100000
open Go.RowKit Go.Shelf

theorem allV_small (l : List UInt8) : ∀ t ∈ allV l, t.length ≤ 65535 := by
  induction h : l.length using Nat.strongRecOn generalizing l with
  | _ n ih =>
    by_cases hg : (getV l).2.2 = 0
    · rw [allV_yes hg]
      obtain ⟨-, h1, h2⟩ := getV_ok hg
      intro t ht
      rcases List.mem_cons.1 ht with rfl | ht
      · exact h2
      · exact ih (l.drop (6 + (getV l).1.length)).length (by simp; omega) _ rfl t ht
    · rw [allV_no hg]; simp
theorem ts_at {l : List (List UInt8)} {i : Nat} {t : List UInt8} (h : l[i]? = some t) : (ts l)[i]? = some (.string (B t)) := by simp [ts, h]

/-- A slice that owns these texts is a slice of them. -/
theorem strs_of_own {w : World} {base : Nat} {v : Value} {l : List (List UInt8)} (h : w.ownsRow base 9 1 v l.length (ts l)) (hl : ∀ t ∈ l, t.length ≤ 1000000) :
    ∃ A cap, v = .slice A l.length cap ∧ Strs w A cap l := by
  have h' := h
  rcases h'.2 with ⟨rfl, hn⟩ | ⟨g, cap, cur, rfl, _, hg, hnc, _, hcs, htake⟩
  · have : l = [] := List.eq_nil_of_length_eq_zero hn
    subst this
    exact ⟨none, 0, rfl, Nat.le_refl _, fun i t ht => by simp at ht⟩
  · refine ⟨_, _, rfl, hnc, fun i t ht => ⟨?_, g, 0, rfl, ?_⟩⟩
    · have := hl t (List.mem_of_getElem? ht); unfold maxLen; omega
    · have := World.ownsRow.cells h (g := g) rfl i _ (ts_at ht)
      rwa [Addr.add_lit] at this

theorem all_any (s : List UInt8) (hs : s.length ≤ 1000000) (w : World) (ht : Tab w) :
    Calls Tryd.prog 29 #[.string (B s)] w fun e w' => ∃ A cap, e = .returned (.tuple #[.slice A (allV s).length cap, .int .i64 (took (allV s) : Nat)]) ∧ Strs w' A cap (allV s) ∧ Old w w' := by
  refine ((callsIn_wide (n := 3)).1 (all_in 3 (by omega) s hs w ht)).mono ?_
  rintro e w' ⟨v, rfl, h, hb⟩
  obtain ⟨A, cap, rfl, hA⟩ := strs_of_own h (fun t ht => by have := allV_small s t ht; omega)
  exact ⟨A, cap, rfl, hA, hb⟩

theorem take_eq_succ {l m : List (List UInt8)} {k : Nat} (h1 : k < l.length) (h2 : k < m.length) : (l.take (k + 1) = m.take (k + 1)) ↔ (l.take k = m.take k ∧ l[k] = m[k]) := by
  rw [List.take_succ_eq_append_getElem h1, List.take_succ_eq_append_getElem h2]
  constructor
  · intro h
    have := List.append_inj h (by simp; omega)
    simpa using this
  · rintro ⟨h3, h4⟩
    rw [h3, h4]

set_option maxRecDepth 10000 in
set_option maxHeartbeats 2000000 in
theorem same_any (l m : List (List UInt8)) (A A' : Option Addr) (c c' : Nat) (hl : l.length ≤ 1000000) (hm : m.length ≤ 1000000) (w : World) (hA : Strs w A c l) (hA' : Strs w A' c' m) :
    Calls Tryd.prog 12 #[.slice A l.length c, .slice A' m.length c'] w fun e w' => e = .returned (.bool (decide (l = m))) ∧ Old w w' := by
  by_cases hlm : l.length = m.length
  · go_enter Tryd.func12, Tryd.ntmps12
    have hb : (((l.length : Nat) : Int) != ((m.length : Nat) : Int)) = false := by simp [hlm]
    go_wp2_with fail
    go_loopw [5] (fun i wr => ∃ k : Nat, k ≤ l.length ∧ i = .int .i64 k ∧ Old w wr ∧ Hid (l.take k = m.take k)) (fun i _ => l.length - (intOf i).toNat)
    case atStart => exact ⟨0, Nat.zero_le _, rfl, Old.re _, Lib.hid rfl⟩
    case round =>
      obtain ⟨k, hk, rfl, hw, HR⟩ := hrel
      by_cases hlt : k < l.length
      · have hlt2 : k < m.length := by omega
        obtain ⟨-, b, off, rfl, hc0⟩ := (hA.old hw).at_ k hlt
        obtain ⟨-, b', off', rfl, hc1⟩ := (hA'.old hw).at_ k hlt2
        have HS := Lib.hid (take_eq_succ hlt hlt2)
        have HN := Lib.hid (show l[k] ≠ m[k] → l ≠ m from fun h e => h (by subst e; rfl))
        generalize l[k] = x at *
        generalize m[k] = y at *
        by_cases hxy : x = y
        · have hbe : (x == y) = true := by simpa using hxy
          have HX := Lib.hid hxy
          clear hxy
          go_wp2_with fail
          go_quiet (fail)
          go_wp2
          go_roundw
          case rel => exact ⟨k + 1, by omega, by go_num, hw.dn _, Lib.hid (HS.out.2 ⟨HR.out, HX.out⟩)⟩
          case measure => simp [intOf]; omega
        · have hbe : (x == y) = false := by simpa using hxy
          go_wp2_with fail
          go_quiet (fail)
          go_wp2
          go_ret
          exact ⟨ret_bool (by simpa using HN.out hxy), hw.dn _⟩
      · have HE := Lib.hid (show l = m by have := HR.out; rwa [List.take_of_length_le (by omega), List.take_of_length_le (by omega)] at this)
        go_wp2
        go_ret
        exact ⟨ret_bool (by simpa using HE.out), hw⟩
  · have hb : (((l.length : Nat) : Int) != ((m.length : Nat) : Int)) = true := by rw [bne_iff_ne]; omega
    have HE := Lib.hid (show ¬ l = m from fun e => hlm (by rw [e]))
    go_enter Tryd.func12, Tryd.ntmps12
    go_wp2
    go_ret
    exact ⟨ret_bool (by simpa using HE.out), Old.re _⟩
end Go.Proofs.YtilimfbjkgeciaaDoor
