/-
  The closure that takes the next item of all lists. Conditions: lengths as written.
-/
import Derived.Test.YtbccpplpfcfboaaMIn
import Derived.StillTailTactics
namespace Go.Proofs.Ytbccpplpfcfboaa
open Go.RowKit

abbrev noItm : Itm := ⟨⟨[], [], 0, 0, false, []⟩, 0⟩
theorem sl_rest (b off len cap : Nat) (h : 1 ≤ len) (w : World) : (Instr.slice 95 (.slice (some ⟨b, off, none⟩) len cap) (some (.int .i64 1)) none none).run Try.prog w = .ok (.slice (if cap = 1 then some ⟨b, off, none⟩ else some ⟨b, off + 7, none⟩) (len - 1) (cap - 1)) w := by
  have h1 : ((1 : Int) ≤ (len : Int)) := by omega
  simp [Instr.slice, go_sem, h1]
theorem Que.row_lt {W0 w : World} {gq : Nat} {ws : List Wt} (h : Que W0 gq ws w) {k : Nat} (hk : rowOf w gq = some k) : k < w.heap.size := by
  obtain ⟨v, h1, h2⟩ := h.ex
  rw [rowOf_bk h1] at hk
  exact (World.ownsRow.lt h2 k hk).2
theorem Que.far {W0 W : World} {gq g o : Nat} {ws : List Wt} {t : TypeId} {cs : Array Value} {u : Value} (h : Que W0 gq ws W) (hb : Bk W g t cs) (hne : g ≠ gq) (ht : t ≠ 97) (hlow : W0.heap.size ≤ g) : Que W0 gq ws (W.setCell ⟨g, o, none⟩ u) := by
  obtain ⟨v, h1, h2⟩ := h.ex
  exact ⟨⟨v, h1.far hne.symm _, row_set h2 hb ht.symm⟩, h.its, h.low, h.old.st (p := ⟨g, _, none⟩) hlow _⟩
theorem Kq.new {gq g o : Nat} {A W : World} {u : Value} (h : Kq gq A W) (hg : A.heap.size ≤ g) (hq : gq < A.heap.size) : Kq gq A (W.setCell ⟨g, o, none⟩ u) := by
  refine ⟨by simpa [World.setCell] using h.size, fun i h0 h1 h2 => (Below.heap_setCell W ⟨g, o, none⟩ u i ?_).trans (h.block i h0 h1 h2), fun k e h0 => h.row k ?_ h0⟩
  · show i ≠ g
    omega
  · unfold rowOf at e ⊢
    rwa [World.cell?_of_block (Below.heap_setCell W ⟨g, o, none⟩ u gq (by show gq ≠ g; omega))] at e
/-- An item is written into a block of its own. -/
theorem put_bk {W : World} {g : Nat} {x y : Itm} (h : Bk W g 59 (icells x)) : Bk (putI W g 0 y) g 59 (icells y) := by
  have := (((((((h.set_ 0 (.string (B y.c.row))).set_ 1 (.string (B y.c.col))).set_ 2 (.int .u64 y.c.ts)).set_ 3 (.int .u64 y.c.seq)).set_ 4 (.bool y.c.del)).set_ 5 (.string (B y.c.val))).set_ 6 (.int .i64 y.pos))
  simpa [putI] using this
theorem Que.putI {W0 W : World} {gq g : Nat} {ws : List Wt} {x y : Itm} (h : Que W0 gq ws W) (hb : Bk W g 59 (icells x)) (hne : g ≠ gq) (hlow : W0.heap.size ≤ g) : Que W0 gq ws (putI W g 0 y) := by
  have ht : 59 ≠ (97 : TypeId) := by decide
  exact ((((((h.far hb hne ht hlow).far (hb.set_ _ _) hne ht hlow).far ((hb.set_ _ _).set_ _ _) hne ht hlow).far (((hb.set_ _ _).set_ _ _).set_ _ _) hne ht hlow).far ((((hb.set_ _ _).set_ _ _).set_ _ _).set_ _ _) hne ht hlow).far (((((hb.set_ _ _).set_ _ _).set_ _ _).set_ _ _).set_ _ _) hne ht hlow).far ((((((hb.set_ _ _).set_ _ _).set_ _ _).set_ _ _).set_ _ _).set_ _ _) hne ht hlow
theorem Kq.putI {gq g : Nat} {A W : World} {y : Itm} (h : Kq gq A W) (hg : A.heap.size ≤ g) (hq : gq < A.heap.size) : Kq gq A (putI W g 0 y) :=
  ((((((h.new hg hq).new hg hq).new hg hq).new hg hq).new hg hq).new hg hq).new hg hq
set_option maxHeartbeats 8000000 in
theorem next_any (W0 w : World) (gq : Nat) (ws : List Wt) (h : Que W0 gq ws w) (hh : HeapF (fun k => ws[k]?) ws.length) (hl : ws.length ≤ 50000) :
    Calls Try.prog 53 #[.pointer (some ⟨gq, 0, none⟩)] w fun e w' => ∃ x ok ws', e = .returned (.tuple #[iv x, .bool ok]) ∧ HeapF (fun k => ws'[k]?) ws'.length ∧ Que W0 gq ws' w' ∧ Kq gq w w' ∧ ws'.length ≤ ws.length ∧
      ((ok = true ∧ ∃ top, x = top.x ∧ Nxt ws top ws' ∧ tot ws' + 1 = tot ws) ∨ (ok = false ∧ ws = [] ∧ ws' = [])) := by
  obtain ⟨A, cap, hb, -⟩ := h.at_
  have hlt := hb.lt
  by_cases hne : ws = []
  · subst hne
    have HQ := Lib.hid h
    have c0 := hb.cell 0
    simp only [List.getElem?_toArray, List.getElem?_cons_zero, List.length_nil] at c0
    have C := fun W => qlen_any A 0 cap W
    have hn1 : ¬ gq = w.heap.size := by omega
    clear h hh hl
    go_enter Try.func53, Try.ntmps53
    go_wp2_with fail
    refine (C _).mono ?_
    rintro e w' ⟨rfl, rfl⟩
    clear C
    go_wp2
    exact bodyPost_ret (v := .tuple #[iv noItm, .bool false]) (by simp [results, Try.results53, go_sem]) rfl ⟨noItm, false, [], rfl, fun i _ h1 => absurd h1 (by simp), HQ.out.old_ (old_alloc _ _), Kq.of_old (old_alloc _ _) hlt, Nat.le_refl _, .inr ⟨rfl, trivial, rfl⟩⟩
  · have HQ := Lib.hid h
    have HH := Lib.hid hh
    have hpos : ¬ (ws.length : Int) = 0 := by have := List.length_pos_iff.2 hne; omega
    have hpos2 : ((ws.length : Int) == 0) = false := by simpa using hpos
    have c0 := hb.cell 0
    simp only [List.getElem?_toArray, List.getElem?_cons_zero] at c0
    have C := fun W => qlen_any A ws.length cap W
    have hn1 : ¬ gq = w.heap.size := by omega
    clear h hh
    go_enter Try.func53, Try.ntmps53
    go_wp2_with fail
    refine (C _).mono ?_
    rintro e w' ⟨rfl, rfl⟩
    clear C
    have C := hpop_any W0 (w.alloc (.cells (icells noItm) 59)) gq ws (HQ.out.old_ (old_alloc _ _)) HH.out (by omega) hne
    go_wp2_with fail
    refine C.mono ?_
    clear C c0
    rintro e w1 ⟨top, ws1, rfl, p1, p2, p3, p4, p5⟩
    have HK : Hid (Kq gq w w1) := Lib.hid ((Kq.of_old (old_alloc w (.cells (icells noItm) 59)) hlt).tr p5)
    have hbr : Bk w1 w.heap.size 59 (icells noItm) := p5.bk (new_bk _ _ _) (by omega) (fun e => by
      have := (Kq.of_old (old_alloc w (.cells (icells noItm) 59)) hlt).row _ e
      unfold rowOf at e
      rw [kept_cell (old_alloc w _) _ _ hlt] at e
      have := HQ.out.row_lt e
      omega)
    have HR : Hid (rowOf w1 gq ≠ some w.heap.size) := Lib.hid fun e => by
      have e := p5.row _ e (by simp)
      unfold rowOf at e
      rw [kept_cell (old_alloc w _) _ _ hlt] at e
      have := HQ.out.row_lt e
      omega
    have htop := HQ.out.its top (p1.mem_iff.2 List.mem_cons_self)
    obtain ⟨tv, tx, tr, ti⟩ := top
    obtain ⟨A1, cap1, e1, hc1⟩ := Itms.form htop
    dsimp only at e1
    subst e1
    obtain ⟨b, off, rfl, hits⟩ := itms_tail htop
    have HT := Lib.hid (And.intro htop hits)
    have HE := Lib.hid (And.intro p1 (And.intro p2 (And.intro p3 p4)))
    clear p1 p2 p3 p4 p5 htop hits
    have hta := run_assertW
    have hlb := hbr.lt
    go_wp2_with fail
    have bT := new_bk w1 97 #[.slice (some ⟨b, off, none⟩) (tr.length + 1) cap1, .int .i64 (ti : Int)]
    have oT := old_alloc w1 (.cells #[.slice (some ⟨b, off, none⟩) (tr.length + 1) cap1, .int .i64 (ti : Int)] 97)
    have hcc : tr.length + 1 ≤ cap1 := hc1
    have HL := Lib.hid hl
    clear hpos hpos2 hn1 hc1 hta hb hl
    have bT0 := bT.cell 0
    have bT1 := bT.cell 1
    simp only [List.getElem?_toArray, List.getElem?_cons_zero, List.getElem?_cons_succ] at bT0 bT1
    generalize w1.alloc (.cells #[.slice (some ⟨b, off, none⟩) (tr.length + 1) cap1, .int .i64 (ti : Int)] 97) = w2 at *
    have hslq : ∀ W, (Instr.slice 95 (.slice (some ⟨b, off, none⟩) (tr.length + 1) cap1) (some (.int .i64 1)) none none).run Try.prog W = .ok (.slice (if cap1 = 1 then some ⟨b, off, none⟩ else some ⟨b, off + 7, none⟩) tr.length (cap1 - 1)) W := fun W => sl_rest b off (tr.length + 1) cap1 (by omega) W
    have HT2 := Lib.hid HT.out.2
    generalize (if cap1 = 1 then (some ⟨b, off, none⟩ : Option Addr) else some ⟨b, off + 7, none⟩) = A2 at *
    have hg1 : gq < w1.heap.size := Nat.lt_of_lt_of_le hlt HK.out.size
    have kT : Kq gq w1 w2 := Kq.of_old oT hg1
    have HC : Hid (Calls Try.prog 52 #[.pointer (some ⟨gq, 0, none⟩), .slice A2 tr.length (cap1 - 1), .int .i64 (ti : Int)] w2.drew fun e W => (∃ u, e = .returned u) ∧ (W.cell? ⟨w1.heap.size, 0, none⟩ = some (.slice (some ⟨b, off, none⟩) (tr.length + 1) cap1) ∧ W.cell? ⟨w1.heap.size, 1, none⟩ = some (.int .i64 (ti : Int))) ∧
        Bk W w.heap.size 59 (icells noItm) ∧ Kq gq w W ∧ Old W0 W ∧ ∃ ws', HeapF (fun k => ws'[k]?) ws'.length ∧ Que W0 gq ws' W ∧ ((tr = [] ∧ ws' = ws1) ∨ ∃ x r, tr = x :: r ∧ ws'.Perm (ws1 ++ [⟨.slice A2 tr.length (cap1 - 1), x, r, ti⟩]))) := Lib.hid (by
      refine (wait_any W0 w2.drew gq ws1 (.slice A2 tr.length (cap1 - 1)) tr ti (HE.out.2.2.2.old_ oT.dr) HE.out.2.2.1 HT2.out (by have h7 := HE.out.1.length_eq; have h8 := HL.out; rw [List.length_cons] at h7; omega)).mono ?_
      rintro e W ⟨hu, ws', q1, q2, q3, q4⟩
      have hk2 : Kq gq w2 W := ⟨q3.size, q3.block, q3.row⟩
      have b2 := hk2.bk bT (by omega) (fun e => by
        have h1 := HE.out.2.2.2
        have h2 : rowOf w2 gq = rowOf w1 gq := by
          unfold rowOf
          rw [kept_cell oT _ _ hg1]
        rw [h2] at e
        have := h1.row_lt e
        omega)
      have b3 := (kT.tr hk2).bk hbr (by omega) HR.out
      exact ⟨hu, ⟨by rw [b2.cell 0]; rfl, by rw [b2.cell 1]; rfl⟩, b3, (HK.out.tr kT).tr hk2, q2.old, ws', q1, q2, q4⟩)
    clear kT hg1
    go_region_held3 (fun W => W.cell? ⟨w1.heap.size, 0, none⟩ = some (.slice (some ⟨b, off, none⟩) (tr.length + 1) cap1) ∧ W.cell? ⟨w1.heap.size, 1, none⟩ = some (.int .i64 (ti : Int))) (first | exact ⟨bT0, bT1⟩ | assumption)
      (first
        | (go_at_call 52; with_reducible refine HC.out.mono ?_; rintro e w3 ⟨⟨u3, rfl⟩, hS3, hR3⟩))
    obtain ⟨hbr3, hk3, ho3, ws', q1, q2, q4⟩ := hR3
    have HF := Lib.hid (And.intro hk3 (And.intro q1 (And.intro q2 q4)))
    have b3 := hbr3.cell 0
    have HI3 := Lib.hid (HT.out.1.old ho3)
    have HB3 := Lib.hid hbr3
    clear hbr3 hk3 ho3 q1 q2 q4 b3 bT oT bT0 bT1 hbr HC hslq
    have hS30 := hS3.1
    have hS31 := hS3.2
    clear hS3
    have C := fun W (o : Old w3 W) => first_any W _ tx tr (HI3.out.old o)
    go_wp2_with fail
    refine (C _ (Old.re _)).mono ?_
    clear C
    rintro e w4 ⟨rfl, o4⟩
    have b4 := HB3.out.old o4
    have fr : ∀ q, w4.frozen? ⟨w.heap.size, q, none⟩ = false := fun q => b4.fr q
    have x0 := b4.cell 0
    have x1 := b4.cell 1
    have x2 := b4.cell 2
    have x3 := b4.cell 3
    have x4 := b4.cell 4
    have x5 := b4.cell 5
    have x6 := b4.cell 6
    simp only [List.getElem?_toArray, List.getElem?_cons_zero, List.getElem?_cons_succ] at x0 x1 x2 x3 x4 x5 x6
    have HB4 := Lib.hid b4
    clear b4
    have HZ : Hid (Bk (putI w4 w.heap.size 0 tx) w.heap.size 59 (icells tx) ∧ Que W0 gq ws' (putI w4 w.heap.size 0 tx) ∧ Kq gq w (putI w4 w.heap.size 0 tx)) := Lib.hid ⟨put_bk HB4.out, (HF.out.2.2.1.old_ o4).putI HB4.out (by omega) HQ.out.old.size, (HF.out.1.tr (Kq.of_old o4 (by have := HF.out.1.size; omega))).putI (Nat.le_refl _) hlt⟩
    go_wp2
    clear x0 x1 x2 x3 x4 x5 x6 fr HB4
    have hZ := HZ.out
    clear HZ
    unfold putI at hZ
    simp only [Nat.zero_add] at hZ
    generalize (((((((w4.setCell ⟨w.heap.size, 0, none⟩ (.string (B tx.c.row))).setCell ⟨w.heap.size, 1, none⟩ (.string (B tx.c.col))).setCell ⟨w.heap.size, 2, none⟩ (.int .u64 tx.c.ts)).setCell ⟨w.heap.size, 3, none⟩ (.int .u64 tx.c.seq)).setCell ⟨w.heap.size, 4, none⟩ (.bool tx.c.del)).setCell ⟨w.heap.size, 5, none⟩ (.string (B tx.c.val))).setCell ⟨w.heap.size, 6, none⟩ (.int .i64 tx.pos)) = Z at *
    obtain ⟨hbz, hqz, hkz⟩ := hZ
    have x0 := hbz.cell 0
    have x1 := hbz.cell 1
    have x2 := hbz.cell 2
    have x3 := hbz.cell 3
    have x4 := hbz.cell 4
    have x5 := hbz.cell 5
    have x6 := hbz.cell 6
    simp only [List.getElem?_toArray, List.getElem?_cons_zero, List.getElem?_cons_succ] at x0 x1 x2 x3 x4 x5 x6
    have HN : Hid (ws'.length ≤ ws.length ∧ Nxt ws ⟨.slice (some ⟨b, off, none⟩) (tr.length + 1) cap1, tx, tr, ti⟩ ws' ∧ tot ws' + 1 = tot ws) := Lib.hid (by
      obtain ⟨p1, p2, -, -⟩ := HE.out
      have t1 := tot_perm p1
      rw [tot_cons] at t1
      dsimp only at t1
      have l1 := p1.length_eq
      rw [List.length_cons] at l1
      rcases HF.out.2.2.2 with ⟨rfl, rfl⟩ | ⟨y, r, rfl, p5⟩
      · exact ⟨by omega, ⟨ws', p2, fun a => p1.mem_iff.trans List.mem_cons, fun a ha => .inl ha, fun a ha => ha, fun h => absurd rfl h⟩, by simp at t1; omega⟩
      · have t2 := tot_perm p5
        rw [tot_snoc] at t2
        dsimp only at t2
        have l2 := p5.length_eq
        rw [List.length_append, List.length_singleton] at l2
        rw [List.length_cons] at t1
        refine ⟨by omega, ⟨ws1, p2, fun a => p1.mem_iff.trans List.mem_cons, fun a ha => ?_, fun a ha => p5.mem_iff.2 (by simp [ha]), fun _ => ⟨⟨.slice A2 (y :: r).length (cap1 - 1), y, r, ti⟩, p5.mem_iff.2 (by simp), rfl, rfl⟩⟩, by omega⟩
        rcases List.mem_append.1 (p5.mem_iff.1 ha) with q | q
        · exact .inl q
        · rw [List.mem_singleton.1 q]; exact .inr ⟨rfl, rfl⟩)
    exact bodyPost_ret (v := .tuple #[iv tx, .bool true]) (by simp [results, Try.results53, go_sem, x0, x1, x2, x3, x4, x5, x6]) rfl ⟨tx, true, ws', rfl, HF.out.2.1, hqz, hkz, HN.out.1, .inl ⟨rfl, _, rfl, HN.out.2.1, HN.out.2.2⟩⟩
end Go.Proofs.Ytbccpplpfcfboaa
