/-
  stretch, at a tree whose top is ahead of the stretch. Conditions: as written.
-/
import Derived.Test.YthanenblcplbhaaMStr
namespace Go.Proofs.Ythanenblcplbhaa
set_option maxRecDepth 100000
open Go.RowKit Go.Shelf

attribute [local go_sem] Oper.semAt_some

set_option maxHeartbeats 16000000 in
theorem stretch_neg (T : Nat → TypeId → Bool) (hT : TMine T) (f : Cel → Int) (kw : Nat) (lb : Array Value)
    (b : Nat) (tl : BT) (c : Cel) (tr : BT) (hf : Hid (f c < 0)) (bn bw : Nat) (w : World) (g : Nat) (hbn : Bk w bn 45 #[.pointer (some ⟨b, 0, none⟩)]) (hbw : Bk w bw 54 #[.func (.func kw) #[] lb]) (ht : Tre w (some ⟨b, 0, none⟩) (.node b tl c tr)) (hw : Whr T kw lb f w)
    (ihr : StrIn T f kw lb tr) :
    Tels Try.prog 50 #[.pointer (some ⟨bn, 0, none⟩), .pointer (some ⟨bw, 0, none⟩)] encC T g (told f tr) w := by
  intro n l J Jx W o hsz hJ hJx hY h0
  obtain ⟨N, hN⟩ : ∃ N : Nat, 9 ≤ N := ⟨9, Nat.le_refl _⟩
  refine CallsIn.any (m := N) ?_
  clear n
  obtain ⟨lev, pl, pr, -, hb, hl, hr⟩ := ht
  have oA := old_alloc W (.cells #[.func (.yield l) #[] #[]] 50)
  have hby := new_bk W 50 #[.func (.yield l) #[] #[]]
  have hszA : (W.alloc (.cells #[.func (.yield l) #[] #[]] 50)).heap.size = g + 3 := by simp [hsz]
  have oB := o.tr oA
  rw [hsz] at hby
  have HJ0 := Lib.hid (hJ 0 _ _ (.of_old oA) h0)
  have HKS := Lib.hid fun (W' : World) (hm : Mine T (W.alloc (.cells #[.func (.yield l) #[] #[]] 50)) W') => (show KS T f kw lb b tl c tr bn bw g l lev pl pr W' from
    ⟨hm.bk (hbn.old oB) (hT.p _), hm.bk (hbw.old oB) (hT.f _), hm.bk (hb.old oB) (hT.n _), hm.bk hby (hT.y _), (hl.old oB).mine hT.n hm, (hr.old oB).mine hT.n hm, hw.mine ((Mine.of_old oB).tr hm)⟩)
  have he := hw.he
  have HY := Lib.hid hY
  have hmm : Try.prog.follows .mixedOrders = true := by kernel_rfl
  clear h0 hw hl hr hb hbn hbw hY oB hby o
  refine callsIn_of_wp_marks Try.func50 rfl trivial ?_ rfl
  simp only [Try.ntmps50, List.size_toArray, List.length_cons, List.length_nil, Nat.reduceAdd, Nat.reduceSub, Array.replicate_succ, Array.replicate_zero, List.push_toArray, List.append_toArray, List.nil_append, List.cons_append]
  have cn : (W.alloc (.cells #[.func (.yield l) #[] #[]] 50)).cell? ⟨bn, 0, none⟩ = some (.pointer (some ⟨b, 0, none⟩)) := (HKS.out _ (.of_old (Old.re _))).bn.cell 0
  gi_wp2_with fail
  generalize W.alloc (.cells #[.func (.yield l) #[] #[]] 50) = W0 at *
  clear cn oA hsz
  have hm : Mine T W0 W0 := .of_old (Old.re _)
  have hks := HKS.out W0 hm
  have cn : W0.cell? ⟨bn, 0, none⟩ = some (.pointer (some ⟨b, 0, none⟩)) := hks.bn.cell 0
  have cw : W0.cell? ⟨bw, 0, none⟩ = some (.func (.func kw) #[] lb) := hks.bw.cell 0
  have c0 : W0.cell? ⟨b, 0, none⟩ = some (.string (B c.row)) := hks.nd.cell 0
  have c1 : W0.cell? ⟨b, 1, none⟩ = some (.string (B c.col)) := hks.nd.cell 1
  have c2 : W0.cell? ⟨b, 2, none⟩ = some (.int .u64 c.ts) := hks.nd.cell 2
  have c3 : W0.cell? ⟨b, 3, none⟩ = some (.int .u64 c.seq) := hks.nd.cell 3
  have c4 : W0.cell? ⟨b, 4, none⟩ = some (.bool c.del) := hks.nd.cell 4
  have c5 : W0.cell? ⟨b, 5, none⟩ = some (.string (B c.val)) := hks.nd.cell 5
  clear hks
  have HW := Lib.hid ((HKS.out W0 hm).wh.tells _ (.of_old ((Old.re W0).dr)) c)
  refine wpIn_cut (fun a' W' => a' = { tmps := #[.func (.yield l) #[] #[], .pointer (some ⟨bn, 0, none⟩), .pointer (some ⟨bw, 0, none⟩), .pointer (some ⟨(g + 2), 0, none⟩), .int .i64 (f c), undef, undef, .pointer (some ⟨b, 0, none⟩), .bool false, .func (.func kw) #[] lb, .pointer (some ⟨b, 0, none⟩), .pointer (some ⟨b, 0, none⟩), .pointer (some ⟨b, 0, none⟩), cv c, .int .i64 (f c), undef, undef, undef, undef, undef, undef, undef, undef, undef, undef, undef, undef, undef, undef, undef, undef, undef, undef, undef, undef, undef, undef, undef, undef, undef, undef, undef, undef, undef, undef, undef, undef, undef, undef, undef, undef, undef], defers := [] } ∧ Old W0 W') ?_ ?_
  · gi_region_with_o (refine ⟨trivial, fun h => (by cases h), (HW.out _).mono ?_⟩; rintro e W2 ⟨rfl, o2⟩)
    all_goals exact ⟨rfl, ((Old.re W0).dr).tr o2⟩
  rintro a' W2 ⟨rfl, o2⟩
  clear cn cw c0 c1 c2 c3 c4 c5
  clear HW
  replace hm : Mine T W0 W2 := .of_old o2
  have hz2 : g + 3 ≤ W2.heap.size := Nat.le_trans (Nat.le_of_eq hszA.symm) o2.size
  replace HJ0 : Hid (J 0 W2) := Lib.hid (hJ 0 _ _ (.of_old o2) HJ0.out)
  clear o2
  have e1 : decide (0 ≤ f c) = false := by have := hf.out; simp; omega
  have e2 : (f c == 0) = false := by have := hf.out; simp; omega
  have e3 : decide (f c ≤ 0) = true := by have := hf.out; simp; omega
  gi_wp2_with fail
  refine wpIn_cut (fun a' W' => a' = { tmps := #[.func (.yield l) #[] #[], .pointer (some ⟨bn, 0, none⟩), .pointer (some ⟨bw, 0, none⟩), .pointer (some ⟨(g + 2), 0, none⟩), .int .i64 (f c), undef, undef, .pointer (some ⟨b, 0, none⟩), .bool false, .func (.func kw) #[] lb, .pointer (some ⟨b, 0, none⟩), .pointer (some ⟨b, 0, none⟩), .pointer (some ⟨b, 0, none⟩), cv c, .int .i64 (f c), .int .i64 (f c), .bool false, undef, undef, undef, undef, undef, undef, undef, undef, undef, undef, undef, .int .i64 (f c), .bool false, .bool false, undef, undef, undef, undef, undef, undef, undef, .bool false, undef, undef, undef, undef, undef, undef, undef, undef, undef, undef, undef, undef, undef], defers := [] } ∧ Old W2 W') ?_ ?_
  · refine wpIn_region_any hmm ?_
    refine wpAnyIn_take (i := 0) (v := .int .i64 (f c)) rfl rfl (by kernel_rfl) (by kernel_rfl) (by kernel_rfl) (fun _ _ _ h => h) ⟨Or.inl ⟨by rfl, ?y12⟩, fun _ => rfl⟩ ?_
    case y12 => (intro w; go_simp; try with_reducible rfl)
    refine wpAnyIn_take (i := 1) (v := .bool false) rfl rfl (by kernel_rfl) (by kernel_rfl) (by kernel_rfl) (fun _ _ _ h => h) ⟨Or.inl ⟨by rfl, ?y13⟩, fun _ => rfl⟩ ?_
    case y13 => (intro w; go_simp; try with_reducible rfl)
    refine wpAnyIn_take (i := 2) (v := .bool false) rfl rfl (by kernel_rfl) (by kernel_rfl) (by kernel_rfl) (fun _ _ _ h => h) ⟨Or.inl ⟨by rfl, ?y14⟩, fun _ => rfl⟩ ?_
    case y14 => (intro w; go_simp; try with_reducible rfl)
    refine wpAnyIn_take (i := 3) (v := undef) rfl rfl (by kernel_rfl) (by kernel_rfl) (by kernel_rfl) (fun _ _ _ h => h) ⟨Or.inr ⟨by kernel_rfl, rfl⟩, fun _ => by kernel_rfl⟩ ?_
    refine wpAnyIn_take (i := 4) (v := undef) rfl rfl (by kernel_rfl) (by kernel_rfl) (by kernel_rfl) (fun _ _ _ h => h) ⟨Or.inr ⟨by kernel_rfl, rfl⟩, fun _ => by kernel_rfl⟩ ?_
    refine wpAnyIn_take (i := 5) (v := undef) rfl rfl (by kernel_rfl) (by kernel_rfl) (by kernel_rfl) (fun _ _ _ h => h) ⟨Or.inr ⟨by kernel_rfl, rfl⟩, fun _ => by kernel_rfl⟩ ?_
    refine wpAnyIn_take (i := 6) (v := undef) rfl rfl (by kernel_rfl) (by kernel_rfl) (by kernel_rfl) (fun _ _ _ h => h) ⟨Or.inr ⟨by kernel_rfl, rfl⟩, fun _ => by kernel_rfl⟩ ?_
    refine wpAnyIn_take (i := 7) (v := undef) rfl rfl (by kernel_rfl) (by kernel_rfl) (by kernel_rfl) (fun _ _ _ h => h) ⟨Or.inr ⟨by kernel_rfl, rfl⟩, fun _ => by kernel_rfl⟩ ?_
    refine wpAnyIn_take (i := 8) (v := undef) rfl rfl (by kernel_rfl) (by kernel_rfl) (by kernel_rfl) (fun _ _ _ h => h) ⟨Or.inr ⟨by kernel_rfl, rfl⟩, fun _ => by kernel_rfl⟩ ?_
    refine wpAnyIn_take (i := 9) (v := undef) rfl rfl (by kernel_rfl) (by kernel_rfl) (by kernel_rfl) (fun _ _ _ h => h) ⟨Or.inr ⟨by kernel_rfl, rfl⟩, fun _ => by kernel_rfl⟩ ?_
    refine wpAnyIn_take (i := 10) (v := .bool false) rfl rfl (by kernel_rfl) (by kernel_rfl) (by kernel_rfl) (fun _ _ _ h => h) ⟨Or.inl ⟨by rfl, ?y22⟩, fun _ => rfl⟩ ?_
    case y22 => (intro w; go_simp; try with_reducible rfl)
    refine wpAnyIn_done (by kernel_rfl) ?_ _
    refine ⟨?_, (Old.re _).dr⟩
    kernel_rfl
  rintro a' W4 ⟨rfl, oW4⟩
  have hm : Mine T W0 W4 := hm.tr (.of_old oW4)
  have hz2 : g + 3 ≤ W4.heap.size := Nat.le_trans hz2 oW4.size
  have HJ0 : Hid (J 0 W4) := Lib.hid (hJ 0 _ _ (.of_old oW4) HJ0.out)
  clear oW4
  gi_wp2_with fail
  have hks := HKS.out W4 hm
  have cn : W4.cell? ⟨bn, 0, none⟩ = some (.pointer (some ⟨b, 0, none⟩)) := hks.bn.cell 0
  have cw : W4.cell? ⟨bw, 0, none⟩ = some (.func (.func kw) #[] lb) := hks.bw.cell 0
  have cr : W4.cell? ⟨b, 8, none⟩ = some (.pointer pr) := hks.nd.cell 8
  clear hks
  refine wpIn_cut (fun a' W' => a' = { tmps := #[.func (.yield l) #[] #[], .pointer (some ⟨bn, 0, none⟩), .pointer (some ⟨bw, 0, none⟩), .pointer (some ⟨(g + 2), 0, none⟩), .int .i64 (f c), undef, undef, .pointer (some ⟨b, 0, none⟩), .bool false, .func (.func kw) #[] lb, .pointer (some ⟨b, 0, none⟩), .pointer (some ⟨b, 0, none⟩), .pointer (some ⟨b, 0, none⟩), cv c, .int .i64 (f c), .int .i64 (f c), .bool false, undef, undef, undef, undef, undef, undef, undef, undef, undef, undef, undef, .int .i64 (f c), .bool false, .bool false, undef, undef, undef, undef, undef, undef, undef, .bool false, .int .i64 (f c), .bool true, .pointer (some ⟨b, 0, none⟩), .pointer (some ⟨b, 0, none⟩), .pointer (some ⟨b, 8, none⟩), .pointer pr, .func (.func kw) #[] lb, .func (.func 50) #[] #[.pointer (some ⟨W4.heap.size, 0, none⟩), .pointer (some ⟨(W4.heap.size + 1), 0, none⟩)], undef, undef, undef, undef, undef], defers := [] } ∧ W' = (W4.drew.alloc (.cells #[.pointer pr] 45)).alloc (.cells #[.func (.func kw) #[] lb] 54)) ?_ ?_
  · gi_region_with_o (refine ⟨trivial, fun h => (by cases h), (stretch_in pr kw lb _ W4.drew).mono ?_⟩; rintro e W9 ⟨rfl, rfl⟩)
    all_goals exact ⟨rfl, rfl⟩
  rintro a' W5 ⟨rfl, hWW5⟩
  clear cn cw cr
  have ob : Old W4 W5 := hWW5 ▸ (((Old.re W4).dr).al _).al _
  have bpb : Bk W5 W4.heap.size 45 #[.pointer pr] := hWW5 ▸ (new_bk W4.drew 45 #[.pointer pr]).alloc _
  have bfb : Bk W5 (W4.heap.size + 1) 54 #[.func (.func kw) #[] lb] := by
    have h := new_bk (W4.drew.alloc (.cells #[.pointer pr] 45)) 54 #[.func (.func kw) #[] lb]
    rw [World.size_alloc] at h
    exact hWW5 ▸ h
  have hmb : Mine T W0 W5 := hm.tr (.of_old ob)
  have hzb : g + 3 ≤ W5.heap.size := Nat.le_trans hz2 ob.size
  have hjb : J (0) W5 := hJ _ _ _ (.of_old ob) HJ0.out
  have HTb := Lib.hid (ihr pr _ _ W5 W5.heap.size bpb bfb (HKS.out _ hmb).tr_ ((HKS.out _ hmb).wh))
  clear hWW5 bpb bfb
  gi_wp2_with fail
  refine range_tels (encs := encC) (T := T) (L := told f tr) (show 1 ≤ N by omega) (gf := 50) (lb := #[.pointer (some ⟨W4.heap.size, 0, none⟩), .pointer (some ⟨(W4.heap.size + 1), 0, none⟩)]) rfl (enters_of Try.func50 (by kernel_rfl) rfl) HTb.out (fun _ => rfl)
    (fun k Z => J (k) Z ∧ Keeps T (g + 2) W5 Z) (fun c' k Z => c' = .ret ∧ Jx (k) Z ∧ Keeps T (g + 2) W5 Z)
    (fun _ _ _ i h => ⟨hJ _ _ _ (i.less (by omega)) h.1, h.2.its i (Nat.le_refl _)⟩) (fun _ _ _ _ i h => ⟨h.1, hJx _ _ _ (i.less (by omega)) h.2.1, h.2.2.its i (Nat.le_refl _)⟩)
    ⟨hjb, .re _ _ _⟩
    (fun k x a' Z => ∃ bx, Bk Z bx 31 (cells x) ∧ (J (k) Z ∧ Keeps T (g + 2) W5 Z) ∧ a' = { tmps := #[.func (.yield l) #[] #[], .pointer (some ⟨bn, 0, none⟩), .pointer (some ⟨bw, 0, none⟩), .pointer (some ⟨(g + 2), 0, none⟩), .int .i64 (f c), undef, .pointer (some ⟨bx, 0, none⟩), .pointer (some ⟨b, 0, none⟩), .bool false, .func (.func kw) #[] lb, .pointer (some ⟨b, 0, none⟩), .pointer (some ⟨b, 0, none⟩), .pointer (some ⟨b, 0, none⟩), cv c, .int .i64 (f c), .int .i64 (f c), .bool false, undef, undef, undef, undef, undef, undef, undef, undef, undef, undef, undef, .int .i64 (f c), .bool false, .bool false, undef, undef, undef, undef, undef, undef, undef, .bool false, .int .i64 (f c), .bool true, .pointer (some ⟨b, 0, none⟩), .pointer (some ⟨b, 0, none⟩), .pointer (some ⟨b, 8, none⟩), .pointer pr, .func (.func kw) #[] lb, .func (.func 50) #[] #[.pointer (some ⟨W4.heap.size, 0, none⟩), .pointer (some ⟨(W4.heap.size + 1), 0, none⟩)], cv x, undef, undef, undef, undef], defers := [] })
    ?axb ?assignb ?bodyb ?doneb ?stopb
  case axb =>
    rintro k x a' Z lz oz oz' hlz hoz hcz ⟨bx, hbx, ⟨hj, hk⟩, rfl⟩
    refine ⟨bx, (World.putObj_heap_other ?_).trans hbx, ⟨hJ _ _ _ (.put _ (by omega) hoz hcz) hj, hk.its (.put _ hlz hoz hcz) (Nat.le_refl _)⟩, rfl⟩
    rintro rfl
    rw [show Z.heap[bx]? = _ from hbx] at hoz
    cases hoz
    cases hcz
  case assignb =>
    rintro lz k x Z K hx h3 ⟨hj, hk⟩ hK
    dsimp only [encC]
    gi_wp2
    exact hK _ _ (.of_old (old_alloc _ _)) ⟨Z.heap.size, new_bk _ _ _, ⟨hJ _ _ _ (.of_old (old_alloc _ _)) hj, hk.tr (.of_old (old_alloc _ _))⟩, rfl⟩
  case bodyb =>
    rintro lz k x a' Z hx ⟨bx, hbx, ⟨hj, hk⟩, rfl⟩
    have hm : Mine T W0 Z := hmb.tr (fun i o ho h => hk.mine i o ho h)
    have cy : Z.cell? ⟨g + 2, 0, none⟩ = some (.func (.yield l) #[] #[]) := (HKS.out Z hm).by_.cell 0
    have d0 : Z.cell? ⟨bx, 0, none⟩ = some (.string (B x.row)) := hbx.cell 0
    have d1 : Z.cell? ⟨bx, 1, none⟩ = some (.string (B x.col)) := hbx.cell 1
    have d2 : Z.cell? ⟨bx, 2, none⟩ = some (.int .u64 x.ts) := hbx.cell 2
    have d3 : Z.cell? ⟨bx, 3, none⟩ = some (.int .u64 x.seq) := hbx.cell 3
    have d4 : Z.cell? ⟨bx, 4, none⟩ = some (.bool x.del) := hbx.cell 4
    have d5 : Z.cell? ⟨bx, 5, none⟩ = some (.string (B x.val)) := hbx.cell 5
    obtain ⟨fn, tmps, assign, body, hy, hR⟩ := HY.out (k) x Z 0 (hx) (by have := hk.size; omega) hj
    dsimp only [encC] at hy
    clear hbx
    gi_wp2_with fail
    refine ⟨fun h => (by cases h), RoundIn.mono (show RoundIn (Fence.wide.inRound lz) _ _ _ _ _ _ _ _ _ from RoundIn.any hR) ?_⟩
    clear hR hy
    rintro e Z5 ⟨hk5, bb, rfl, ⟨rfl, hj5⟩ | ⟨rfl, hj5⟩⟩
    · gi_wp2
      exact ⟨hk5.bod (by omega), by simpa only [Nat.add_assoc] using hj5, hk.tr hk5⟩
    · gi_wp2
      exact ⟨hk5.bod (by omega), rfl, by simpa only [Nat.add_assoc] using hj5, hk.tr hk5⟩
  case stopb =>
    rintro Db c' k Zb hDb hk0 ⟨rfl, hj, hkb⟩ hdb
    gi_wp2
    refine ⟨by simp, .inl ⟨_, _, rfl, run_takeDeferred hdb, ?_⟩⟩
    refine ⟨_, results_none rfl _ _ _, ⟨_, rfl⟩, .inr ⟨k, hk0, hJx _ _ _ (Its.put (g := g + 2) _ (by omega) hdb rfl) hj⟩⟩
  case doneb =>
    rintro Db Zb hDb ⟨hj, hkb⟩ hdb
    gi_wp2
    refine ⟨by simp, .inl ⟨_, _, rfl, run_takeDeferred hdb, ?_⟩⟩
    refine ⟨_, results_none rfl _ _ _, ⟨_, rfl⟩, .inl (hJ _ _ _ (Its.put (g := g + 2) _ (by omega) hdb rfl) hj)⟩
end Go.Proofs.Ythanenblcplbhaa
