/-
  A tree with one cell more. Conditions: a tree lies there, no block twice.
-/
import Derived.Test.YthanenblcplbhaaMTre
import Derived.StillTailTactics
namespace Go.Proofs.Ythanenblcplbhaa
set_option maxRecDepth 100000
open Go.RowKit

/-- The cells of a tree with one more. -/
def tins (c : Cel) : BT → List Cel
  | .leaf => [c]
  | .node _ l x r => if cmpC c x < 0 then tins c l ++ x :: r.ino else l.ino ++ x :: tins c r
theorem six12 {W W' W0 : World} {a b : Nat} {x y : Cel} (h : Old W0 W ∧ W.cell? ⟨a, 0, none⟩ = some (.string (B x.row)) ∧ W.cell? ⟨a, 1, none⟩ = some (.string (B x.col)) ∧ W.cell? ⟨a, 2, none⟩ = some (.int .u64 x.ts) ∧ W.cell? ⟨a, 3, none⟩ = some (.int .u64 x.seq) ∧ W.cell? ⟨a, 4, none⟩ = some (.bool x.del) ∧ W.cell? ⟨a, 5, none⟩ = some (.string (B x.val)) ∧ W.cell? ⟨b, 0, none⟩ = some (.string (B y.row)) ∧ W.cell? ⟨b, 1, none⟩ = some (.string (B y.col)) ∧ W.cell? ⟨b, 2, none⟩ = some (.int .u64 y.ts) ∧ W.cell? ⟨b, 3, none⟩ = some (.int .u64 y.seq) ∧ W.cell? ⟨b, 4, none⟩ = some (.bool y.del) ∧ W.cell? ⟨b, 5, none⟩ = some (.string (B y.val))) (k : Old W W') :
    Old W0 W' ∧ W'.cell? ⟨a, 0, none⟩ = some (.string (B x.row)) ∧ W'.cell? ⟨a, 1, none⟩ = some (.string (B x.col)) ∧ W'.cell? ⟨a, 2, none⟩ = some (.int .u64 x.ts) ∧ W'.cell? ⟨a, 3, none⟩ = some (.int .u64 x.seq) ∧ W'.cell? ⟨a, 4, none⟩ = some (.bool x.del) ∧ W'.cell? ⟨a, 5, none⟩ = some (.string (B x.val)) ∧ W'.cell? ⟨b, 0, none⟩ = some (.string (B y.row)) ∧ W'.cell? ⟨b, 1, none⟩ = some (.string (B y.col)) ∧ W'.cell? ⟨b, 2, none⟩ = some (.int .u64 y.ts) ∧ W'.cell? ⟨b, 3, none⟩ = some (.int .u64 y.seq) ∧ W'.cell? ⟨b, 4, none⟩ = some (.bool y.del) ∧ W'.cell? ⟨b, 5, none⟩ = some (.string (B y.val)) := by
  obtain ⟨h0, a0, a1, a2, a3, a4, a5, b0, b1, b2, b3, b4, b5⟩ := h
  exact ⟨h0.tr k, cell_old a0 k, cell_old a1 k, cell_old a2 k, cell_old a3 k, cell_old a4 k, cell_old a5 k, cell_old b0 k, cell_old b1 k, cell_old b2 k, cell_old b3 k, cell_old b4 k, cell_old b5 k⟩
/-- What comes of a tree with one cell more. -/
def WithP (c : Cel) (t : BT) (w : World) (e : Ending) (w' : World) : Prop :=
  ∃ g l x r, e = .returned (.pointer (some ⟨g, 0, none⟩)) ∧ Tre w' (some ⟨g, 0, none⟩) (.node g l x r) ∧ (BT.node g l x r).ino = tins c t ∧ (BT.node g l x r).bls.Nodup ∧ (∀ i ∈ (BT.node g l x r).bls, i ∈ t.bls ∨ w.heap.size ≤ i) ∧ Buts t.bls w w'

set_option maxHeartbeats 8000000 in
theorem with_any (c : Cel) (t : BT) : ∀ (p : Option Addr) (w : World), Tre w p t → t.bls.Nodup → Calls Try.prog 25 #[.pointer p, cv c] w (WithP c t w) := by
  induction t with
  | leaf =>
    intro p w ht _
    obtain rfl : p = none := ht
    have b0 := new_bk (w.alloc (.cells (cells c) 31)) 67 (ndv c 1 none none)
    rw [World.size_alloc] at b0
    go_enter Try.func25, Try.ntmps25
    go_wp2
    go_ret
    exact ⟨w.heap.size + 1, .leaf, c, .leaf, by simp, ⟨1, none, none, rfl, b0, rfl, rfl⟩, rfl, by simp [BT.bls], by simp [BT.bls], .of_old (((Old.re _).al _).al _)⟩
  | node b l x r ihl ihr =>
    intro p w ht nd
    obtain ⟨lev, pl, pr, rfl, hb, hl, hr⟩ := ht
    obtain ⟨n1, n2, n3, n4, n5⟩ := nd_node nd
    have o0 := old_alloc w (.cells (cells c) 31)
    have k0 := new_bk w 31 (cells c)
    have b0 := hb.old o0
    have hS : Old (w.alloc (.cells (cells c) 31)) (w.alloc (.cells (cells c) 31)) ∧ (w.alloc (.cells (cells c) 31)).cell? ⟨w.heap.size, 0, none⟩ = some (.string (B c.row)) ∧ (w.alloc (.cells (cells c) 31)).cell? ⟨w.heap.size, 1, none⟩ = some (.string (B c.col)) ∧ (w.alloc (.cells (cells c) 31)).cell? ⟨w.heap.size, 2, none⟩ = some (.int .u64 c.ts) ∧ (w.alloc (.cells (cells c) 31)).cell? ⟨w.heap.size, 3, none⟩ = some (.int .u64 c.seq) ∧ (w.alloc (.cells (cells c) 31)).cell? ⟨w.heap.size, 4, none⟩ = some (.bool c.del) ∧ (w.alloc (.cells (cells c) 31)).cell? ⟨w.heap.size, 5, none⟩ = some (.string (B c.val)) ∧ (w.alloc (.cells (cells c) 31)).cell? ⟨b, 0, none⟩ = some (.string (B x.row)) ∧ (w.alloc (.cells (cells c) 31)).cell? ⟨b, 1, none⟩ = some (.string (B x.col)) ∧ (w.alloc (.cells (cells c) 31)).cell? ⟨b, 2, none⟩ = some (.int .u64 x.ts) ∧ (w.alloc (.cells (cells c) 31)).cell? ⟨b, 3, none⟩ = some (.int .u64 x.seq) ∧ (w.alloc (.cells (cells c) 31)).cell? ⟨b, 4, none⟩ = some (.bool x.del) ∧ (w.alloc (.cells (cells c) 31)).cell? ⟨b, 5, none⟩ = some (.string (B x.val)) :=
      ⟨Old.re _, k0.cell 0, k0.cell 1, k0.cell 2, k0.cell 3, k0.cell 4, k0.cell 5, b0.cell 0, b0.cell 1, b0.cell 2, b0.cell 3, b0.cell 4, b0.cell 5⟩
    have HB := Lib.hid (And.intro hb (And.intro hl hr))
    have HK := Lib.hid k0
    clear b0 k0 hb hl hr
    go_enter Try.func25, Try.ntmps25
    go_wp2_with fail
    generalize w.alloc (.cells (cells c) 31) = W0 at *
    go_region_held3 (fun W => Old W0 W ∧ W.cell? ⟨w.heap.size, 0, none⟩ = some (.string (B c.row)) ∧ W.cell? ⟨w.heap.size, 1, none⟩ = some (.string (B c.col)) ∧ W.cell? ⟨w.heap.size, 2, none⟩ = some (.int .u64 c.ts) ∧ W.cell? ⟨w.heap.size, 3, none⟩ = some (.int .u64 c.seq) ∧ W.cell? ⟨w.heap.size, 4, none⟩ = some (.bool c.del) ∧ W.cell? ⟨w.heap.size, 5, none⟩ = some (.string (B c.val)) ∧ W.cell? ⟨b, 0, none⟩ = some (.string (B x.row)) ∧ W.cell? ⟨b, 1, none⟩ = some (.string (B x.col)) ∧ W.cell? ⟨b, 2, none⟩ = some (.int .u64 x.ts) ∧ W.cell? ⟨b, 3, none⟩ = some (.int .u64 x.seq) ∧ W.cell? ⟨b, 4, none⟩ = some (.bool x.del) ∧ W.cell? ⟨b, 5, none⟩ = some (.string (B x.val))) (first | exact ⟨hS.1.dr, hS.2⟩ | exact six12 (by assumption) (by assumption))
      (first
        | (go_at_call 34; with_reducible refine (cmp_any c x _).mono ?_; rintro r w1 ⟨rfl, h1b⟩))
    have f9 : Old W0 w1 := And.left (by assumption)
    have HC := cmpC_vals c x
    clear hS
    by_cases hlt : cmpC c x < 0
    · have hw : decide (cmpC c x < 0) = true := decide_eq_true hlt
      have HT := Lib.hid (((HB.out.2.1.old o0).old f9).old ((Old.re w1).dr))
      have HIH := Lib.hid (ihl pl w1.drew HT.out n3)
      have hlen : w.heap.size < w1.heap.size := Nat.lt_of_lt_of_le HK.out.lt f9.size
      have HKP := Lib.hid fun (w2 : World) (k : Buts l.bls w1.drew w2) => (show Bk w2 w.heap.size 31 (cells c) ∧ Bk w2 b 67 (ndv x lev pl pr) from
        ⟨k.bk ((HK.out.old f9).old ((Old.re w1).dr)) (fun h => Nat.lt_irrefl _ (HB.out.2.1.lt _ h)), k.bk (((HB.out.1.old o0).old f9).old ((Old.re w1).dr)) n1⟩)
      have c7 : w1.cell? ⟨b, 7, none⟩ = some (.pointer pl) := ((HB.out.1.old o0).old f9).cell 7
      have hs0 := (HK.out.old f9)
      have s0 : w1.cell? ⟨w.heap.size, 0, none⟩ = some (.string (B c.row)) := hs0.cell 0
      have s1 : w1.cell? ⟨w.heap.size, 1, none⟩ = some (.string (B c.col)) := hs0.cell 1
      have s2 : w1.cell? ⟨w.heap.size, 2, none⟩ = some (.int .u64 c.ts) := hs0.cell 2
      have s3 : w1.cell? ⟨w.heap.size, 3, none⟩ = some (.int .u64 c.seq) := hs0.cell 3
      have s4 : w1.cell? ⟨w.heap.size, 4, none⟩ = some (.bool c.del) := hs0.cell 4
      have s5 : w1.cell? ⟨w.heap.size, 5, none⟩ = some (.string (B c.val)) := hs0.cell 5
      clear hs0
      go_wp2_with fail
      go_region_with (first
        | (go_at_call 25; refine HIH.out.mono ?_; rintro rr w2 ⟨g, l2, x2, r2, rfl, t2, i2, m2, e2, k2⟩; have f7 := (HKP.out _ k2).2.fr 7; have e7 : w2.cell? ⟨b, 7, none⟩ = some (.pointer pl) := (HKP.out _ k2).2.cell 7; have HQ := Lib.hid (And.intro t2 (And.intro i2 (And.intro m2 (And.intro e2 k2)))); clear t2 i2 m2 e2))
      all_goals
        clear HIH ihl ihr f7 e7 c7 s0 s1 s2 s3 s4 s5
        obtain ⟨W3, hW3⟩ : ∃ W3, W3 = w2.setCell ⟨b, 7, none⟩ (.pointer (some ⟨g, 0, none⟩)) := ⟨_, rfl⟩
        rw [← hW3]
        have HF : Hid (Tre W3 (some ⟨b, 0, none⟩) (BT.node b (.node g l2 x2 r2) x r) ∧ (BT.node b (.node g l2 x2 r2) x r).bls.Nodup ∧ (∀ i ∈ (BT.node b (.node g l2 x2 r2) x r).bls, i ∈ (BT.node b l x r).bls ∨ w.heap.size ≤ i) ∧ Buts (BT.node b l x r).bls w W3) := by
          obtain ⟨t2, i2, m2, e2, k2⟩ := HQ.out
          have k2' := k2
          have bz := (HKP.out _ k2').2
          have hbl : b < w.heap.size := HB.out.1.lt
          have hsz : w.heap.size < w1.drew.heap.size := hlen
          have q1 : b ∉ (BT.node g l2 x2 r2).bls := fun h => (e2 b h).elim n1 (fun h => by omega)
          have hol : ∀ i ∈ r.bls, i < w.heap.size := HB.out.2.2.lt
          have q2 : ∀ i ∈ (BT.node g l2 x2 r2).bls, i ∉ r.bls := fun i h1 h2 => (e2 i h1).elim (fun h => n5 i h h2) (fun h => by have := hol i h2; omega)
          have tq : Tre w2 _ r := (((HB.out.2.2.old o0).old f9).old ((Old.re w1).dr)).but k2 (fun i h1 h2 => n5 i h2 h1)
          subst hW3
          refine Lib.hid ⟨⟨lev, _, _, rfl, by simpa using bz.set_ 7 (.pointer (some ⟨g, 0, none⟩)), t2.set q1 _ _, tq.set n2 _ _⟩, nd_make q1 n2 m2 n4 q2, ?_, ?_⟩
          · intro i hi
            simp only [BT.bls, List.mem_cons, List.mem_append] at hi e2 ⊢
            rcases hi with rfl | hi | hi
            · exact .inl (.inl rfl)
            · exact (e2 i hi).elim (fun h => .inl (.inr (.inl h))) (fun h => .inr (by omega))
            · exact .inl (.inr (.inr hi))
          · exact ((Buts.of_old (o0.tr (f9.tr ((Old.re w1).dr)))).tr (k2.mono fun i hi => by simp [BT.bls, hi])).st (by simp [BT.bls]) _ _
        have HK3 := Lib.hid (skew_any b (.node g l2 x2 r2) x r W3 HF.out.1 HF.out.2.1)
        clear HKP HB HK hW3 k2
        go_wp2_with (first
          | (go_at_call 42; refine HK3.out.mono ?_; rintro ee w4 ⟨g4, l4, x4, r4, rfl, t4, i4, p4, k4⟩; have HP := Lib.hid (split_any g4 l4 x4 r4 w4 t4 (p4.nodup_iff.2 HF.out.2.1)))
          | (go_at_call 43; refine HP.out.mono ?_; rintro ee w5 ⟨g5, l5, x5, r5, rfl, t5, i5, p5, k5⟩))
        go_ret
        obtain ⟨-, i2, -, -, -⟩ := HQ.out
        obtain ⟨-, m3, e3, k3⟩ := HF.out
        refine ⟨g5, l5, x5, r5, rfl, t5, ?_, (p5.trans p4).nodup_iff.2 m3, fun i hi => e3 i ((p5.trans p4).mem_iff.1 hi), ?_⟩
        · rw [i5, i4]
          simp only [BT.ino, tins] at i2 ⊢
          rw [if_pos hlt, i2]
        · have k6 := (((k3.mono (M := (BT.node b l x r).bls ++ (BT.node b (.node g l2 x2 r2) x r).bls) (by intro i hi; simp [hi])).tr (k4.mono (by intro i hi; exact List.mem_append_right _ hi))).tr (k5.mono (by intro i hi; exact List.mem_append_right _ (p4.mem_iff.1 hi))))
          exact k6.less fun i hi => (List.mem_append.1 hi).elim .inl (e3 i)
    · have hw : decide (cmpC c x < 0) = false := decide_eq_false hlt
      have HT := Lib.hid (((HB.out.2.2.old o0).old f9).old ((Old.re w1).dr))
      have HIH := Lib.hid (ihr pr w1.drew HT.out n4)
      have hlen : w.heap.size < w1.heap.size := Nat.lt_of_lt_of_le HK.out.lt f9.size
      have HKP := Lib.hid fun (w2 : World) (k : Buts r.bls w1.drew w2) => (show Bk w2 w.heap.size 31 (cells c) ∧ Bk w2 b 67 (ndv x lev pl pr) from
        ⟨k.bk ((HK.out.old f9).old ((Old.re w1).dr)) (fun h => Nat.lt_irrefl _ (HB.out.2.2.lt _ h)), k.bk (((HB.out.1.old o0).old f9).old ((Old.re w1).dr)) n2⟩)
      have c8 : w1.cell? ⟨b, 8, none⟩ = some (.pointer pr) := ((HB.out.1.old o0).old f9).cell 8
      have hs0 := (HK.out.old f9)
      have s0 : w1.cell? ⟨w.heap.size, 0, none⟩ = some (.string (B c.row)) := hs0.cell 0
      have s1 : w1.cell? ⟨w.heap.size, 1, none⟩ = some (.string (B c.col)) := hs0.cell 1
      have s2 : w1.cell? ⟨w.heap.size, 2, none⟩ = some (.int .u64 c.ts) := hs0.cell 2
      have s3 : w1.cell? ⟨w.heap.size, 3, none⟩ = some (.int .u64 c.seq) := hs0.cell 3
      have s4 : w1.cell? ⟨w.heap.size, 4, none⟩ = some (.bool c.del) := hs0.cell 4
      have s5 : w1.cell? ⟨w.heap.size, 5, none⟩ = some (.string (B c.val)) := hs0.cell 5
      clear hs0
      go_wp2_with fail
      go_region_with (first
        | (go_at_call 25; refine HIH.out.mono ?_; rintro rr w2 ⟨g, l2, x2, r2, rfl, t2, i2, m2, e2, k2⟩; have f7 := (HKP.out _ k2).2.fr 8; have e7 : w2.cell? ⟨b, 8, none⟩ = some (.pointer pr) := (HKP.out _ k2).2.cell 8; have HQ := Lib.hid (And.intro t2 (And.intro i2 (And.intro m2 (And.intro e2 k2)))); clear t2 i2 m2 e2))
      all_goals
        clear HIH ihl ihr f7 e7 c8 s0 s1 s2 s3 s4 s5
        obtain ⟨W3, hW3⟩ : ∃ W3, W3 = w2.setCell ⟨b, 8, none⟩ (.pointer (some ⟨g, 0, none⟩)) := ⟨_, rfl⟩
        rw [← hW3]
        have HF : Hid (Tre W3 (some ⟨b, 0, none⟩) (BT.node b l x (.node g l2 x2 r2)) ∧ (BT.node b l x (.node g l2 x2 r2)).bls.Nodup ∧ (∀ i ∈ (BT.node b l x (.node g l2 x2 r2)).bls, i ∈ (BT.node b l x r).bls ∨ w.heap.size ≤ i) ∧ Buts (BT.node b l x r).bls w W3) := by
          obtain ⟨t2, i2, m2, e2, k2⟩ := HQ.out
          have k2' := k2
          have bz := (HKP.out _ k2').2
          have hbl : b < w.heap.size := HB.out.1.lt
          have hsz : w.heap.size < w1.drew.heap.size := hlen
          have q1 : b ∉ (BT.node g l2 x2 r2).bls := fun h => (e2 b h).elim n2 (fun h => by omega)
          have hol : ∀ i ∈ l.bls, i < w.heap.size := HB.out.2.1.lt
          have q2 : ∀ i ∈ (BT.node g l2 x2 r2).bls, i ∉ l.bls := fun i h1 h2 => (e2 i h1).elim (fun h => (fun i h1 h2 => n5 i h2 h1) i h h2) (fun h => by have := hol i h2; omega)
          have tq : Tre w2 _ l := (((HB.out.2.1.old o0).old f9).old ((Old.re w1).dr)).but k2 (fun i h1 h2 => (fun i h1 h2 => n5 i h2 h1) i h2 h1)
          subst hW3
          refine Lib.hid ⟨⟨lev, _, _, rfl, by simpa using bz.set_ 8 (.pointer (some ⟨g, 0, none⟩)), tq.set n1 _ _, t2.set q1 _ _⟩, nd_make n1 q1 n3 m2 (fun i h1 h2 => q2 i h2 h1), ?_, ?_⟩
          · intro i hi
            simp only [BT.bls, List.mem_cons, List.mem_append] at hi e2 ⊢
            rcases hi with rfl | hi | hi
            · exact .inl (.inl rfl)
            · exact .inl (.inr (.inl hi))
            · exact (e2 i hi).elim (fun h => .inl (.inr (.inr h))) (fun h => .inr (by omega))
          · exact ((Buts.of_old (o0.tr (f9.tr ((Old.re w1).dr)))).tr (k2.mono fun i hi => by simp [BT.bls, hi])).st (by simp [BT.bls]) _ _
        have HK3 := Lib.hid (skew_any b l x (.node g l2 x2 r2) W3 HF.out.1 HF.out.2.1)
        clear HKP HB HK hW3 k2
        go_wp2_with (first
          | (go_at_call 42; refine HK3.out.mono ?_; rintro ee w4 ⟨g4, l4, x4, r4, rfl, t4, i4, p4, k4⟩; have HP := Lib.hid (split_any g4 l4 x4 r4 w4 t4 (p4.nodup_iff.2 HF.out.2.1)))
          | (go_at_call 43; refine HP.out.mono ?_; rintro ee w5 ⟨g5, l5, x5, r5, rfl, t5, i5, p5, k5⟩))
        go_ret
        obtain ⟨-, i2, -, -, -⟩ := HQ.out
        obtain ⟨-, m3, e3, k3⟩ := HF.out
        refine ⟨g5, l5, x5, r5, rfl, t5, ?_, (p5.trans p4).nodup_iff.2 m3, fun i hi => e3 i ((p5.trans p4).mem_iff.1 hi), ?_⟩
        · rw [i5, i4]
          simp only [BT.ino, tins] at i2 ⊢
          rw [if_neg (by omega), i2]
        · have k6 := (((k3.mono (M := (BT.node b l x r).bls ++ (BT.node b l x (.node g l2 x2 r2)).bls) (by intro i hi; simp [hi])).tr (k4.mono (by intro i hi; exact List.mem_append_right _ hi))).tr (k5.mono (by intro i hi; exact List.mem_append_right _ (p4.mem_iff.1 hi))))
          exact k6.less fun i hi => (List.mem_append.1 hi).elim .inl (e3 i)
end Go.Proofs.Ythanenblcplbhaa
