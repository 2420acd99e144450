/-
  Trees in memory: nodes with cells; what writes to a tree's nodes alone. Conditions: as written.
-/
import Derived.Test.YthanenblcplbhaaCRise
namespace Go.Proofs.Ythanenblcplbhaa
set_option maxRecDepth 100000
open Go.RowKit

/-- A tree: of each node the block where it lies, and its cell. -/
inductive BT where
  | leaf
  | node (b : Nat) (l : BT) (c : Cel) (r : BT)
/-- Its cells, in order. -/
def BT.ino : BT → List Cel
  | .leaf => []
  | .node _ l c r => l.ino ++ c :: r.ino
/-- Its blocks. -/
def BT.bls : BT → List Nat
  | .leaf => []
  | .node b l _ r => b :: (l.bls ++ r.bls)
/-- The cells of a node. -/
abbrev ndv (c : Cel) (lev : Int) (pl pr : Option Addr) : Array Value := #[.string (B c.row), .string (B c.col), .int .u64 c.ts, .int .u64 c.seq, .bool c.del, .string (B c.val), .int .i64 lev, .pointer pl, .pointer pr]
/-- A tree lies here. -/
def Tre (w : World) : Option Addr → BT → Prop
  | p, .leaf => p = none
  | p, .node b l c r => ∃ lev pl pr, p = some ⟨b, 0, none⟩ ∧ Bk w b 67 (ndv c lev pl pr) ∧ Tre w pl l ∧ Tre w pr r
/-- All blocks but these stay. -/
structure Buts (L : List Nat) (w w' : World) : Prop where
  os : w'.os = w.os
  tape : w'.tape = w.tape
  output : w'.output = w.output
  size : w.heap.size ≤ w'.heap.size
  block : ∀ i, i < w.heap.size → i ∉ L → w'.heap[i]? = w.heap[i]?
theorem Buts.re (L : List Nat) (w : World) : Buts L w w := ⟨rfl, rfl, rfl, Nat.le_refl _, fun _ _ _ => rfl⟩
theorem Buts.tr {L : List Nat} {a b c : World} (h : Buts L a b) (k : Buts L b c) : Buts L a c :=
  ⟨k.os.trans h.os, k.tape.trans h.tape, k.output.trans h.output, Nat.le_trans h.size k.size, fun i hi hn => (k.block i (Nat.lt_of_lt_of_le hi h.size) hn).trans (h.block i hi hn)⟩
theorem Buts.of_old {L : List Nat} {w w' : World} (h : Old w w') : Buts L w w' := ⟨h.os, h.tape, h.output, h.size, fun i hi _ => h.block i hi⟩
/-- New blocks among those that are left out, count as none. -/
theorem Buts.less {L M : List Nat} {w w' : World} (h : Buts L w w') (hL : ∀ i ∈ L, i ∈ M ∨ w.heap.size ≤ i) : Buts M w w' :=
  ⟨h.os, h.tape, h.output, h.size, fun i hi hn => h.block i hi fun hm => (hL i hm).elim hn (fun h => by omega)⟩
theorem Buts.mono {L M : List Nat} {w w' : World} (h : Buts L w w') (hL : ∀ i ∈ L, i ∈ M) : Buts M w w' := h.less fun i hi => .inl (hL i hi)
theorem Buts.st {L : List Nat} {w w' : World} (h : Buts L w w') {b : Nat} (hb : b ∈ L) (o : Nat) (v : Value) : Buts L w (w'.setCell ⟨b, o, none⟩ v) :=
  ⟨h.os, h.tape, h.output, by simpa [World.setCell] using h.size, fun i hi hn => (Below.heap_setCell w' ⟨b, o, none⟩ v i (fun e => hn (by cases e; exact hb))).trans (h.block i hi hn)⟩
theorem Buts.dn {L : List Nat} {w w' : World} (h : Buts L w w') (n : Nat) : Buts L w (w'.drewN n) := ⟨h.os, h.tape, h.output, h.size, h.block⟩
theorem Buts.bk {L : List Nat} {w w' : World} (h : Buts L w w') {b : Nat} {t : TypeId} {cs : Array Value} (hb : Bk w b t cs) (hn : b ∉ L) : Bk w' b t cs := (h.block b hb.lt hn).trans hb
theorem Tre.lt {w : World} : ∀ {p : Option Addr} {t : BT}, Tre w p t → ∀ b ∈ t.bls, b < w.heap.size
  | _, .leaf, _, b, hb => by simp [BT.bls] at hb
  | _, .node g l c r, ⟨_, _, _, _, hg, hl, hr⟩, b, hb => by
    simp only [BT.bls, List.mem_cons, List.mem_append] at hb
    rcases hb with rfl | hb | hb
    · exact hg.lt
    · exact hl.lt b hb
    · exact hr.lt b hb
theorem Tre.keep {w w' : World} : ∀ {p : Option Addr} {t : BT}, Tre w p t → (∀ b ∈ t.bls, w'.heap[b]? = w.heap[b]?) → Tre w' p t
  | _, .leaf, h, _ => h
  | _, .node g l c r, ⟨lev, pl, pr, hp, hg, hl, hr⟩, k =>
    ⟨lev, pl, pr, hp, (k g (by simp [BT.bls])).trans hg, hl.keep fun b hb => k b (by simp [BT.bls, hb]), hr.keep fun b hb => k b (by simp [BT.bls, hb])⟩
theorem Tre.but {L : List Nat} {w w' : World} {p : Option Addr} {t : BT} (h : Tre w p t) (k : Buts L w w') (hd : ∀ b ∈ t.bls, b ∉ L) : Tre w' p t := h.keep fun b hb => k.block b (h.lt b hb) (hd b hb)
theorem Tre.old {w w' : World} {p : Option Addr} {t : BT} (h : Tre w p t) (k : Old w w') : Tre w' p t := h.keep fun b hb => k.block b (h.lt b hb)
theorem Tre.set {w : World} {p : Option Addr} {t : BT} (h : Tre w p t) {g : Nat} (hg : g ∉ t.bls) (o : Nat) (v : Value) : Tre (w.setCell ⟨g, o, none⟩ v) p t :=
  h.keep fun b hb => Below.heap_setCell w ⟨g, o, none⟩ v b (fun e => hg (by cases e; exact hb))
/-- The address of a tree's top tells whether there is one. -/
theorem Tre.none_iff {w : World} {p : Option Addr} {t : BT} (h : Tre w p t) : p = none ↔ t = .leaf := by
  cases t with
  | leaf => exact ⟨fun _ => rfl, fun _ => h⟩
  | node b l c r =>
    obtain ⟨lev, pl, pr, rfl, -⟩ := h
    exact ⟨fun h => (by cases h), fun h => (by cases h)⟩

theorem nd_node {b : Nat} {l : BT} {c : Cel} {r : BT} (nd : (BT.node b l c r).bls.Nodup) : b ∉ l.bls ∧ b ∉ r.bls ∧ l.bls.Nodup ∧ r.bls.Nodup ∧ ∀ i ∈ l.bls, i ∉ r.bls := by
  simp only [BT.bls, List.nodup_cons, List.mem_append, not_or, List.nodup_append] at nd
  exact ⟨nd.1.1, nd.1.2, nd.2.1, nd.2.2.1, fun i h1 h2 => nd.2.2.2 i h1 i h2 rfl⟩
theorem nd_make {b : Nat} {l : BT} {c : Cel} {r : BT} (h1 : b ∉ l.bls) (h2 : b ∉ r.bls) (h3 : l.bls.Nodup) (h4 : r.bls.Nodup) (h5 : ∀ i ∈ l.bls, i ∉ r.bls) : (BT.node b l c r).bls.Nodup := by
  simp only [BT.bls, List.nodup_cons, List.mem_append, not_or, List.nodup_append]
  exact ⟨⟨h1, h2⟩, h3, h4, fun i hi j hj e => h5 i hi (e ▸ hj)⟩
/-- The left node is lifted. -/
theorem rot_left {w : World} {b g : Nat} {l m r : BT} {c x : Cel} {lev lv : Int} {pr pl pm : Option Addr} (hb : Bk w b 67 (ndv c lev (some ⟨g, 0, none⟩) pr)) (hg : Bk w g 67 (ndv x lv pl pm))
    (hl : Tre w pl l) (hm : Tre w pm m) (hr : Tre w pr r) (nd : (BT.node b (.node g l x m) c r).bls.Nodup) :
    Tre ((w.setCell ⟨b, 7, none⟩ (.pointer pm)).setCell ⟨g, 8, none⟩ (.pointer (some ⟨b, 0, none⟩))) (some ⟨g, 0, none⟩) (.node g l x (.node b m c r)) := by
  obtain ⟨n1, n2, n3, n4, n5⟩ := nd_node nd
  obtain ⟨m1, m2, m3, m4, m5⟩ := nd_node n3
  simp only [BT.bls, List.mem_cons, List.mem_append, not_or] at n1
  have g5 : g ∉ r.bls := n5 g (by simp [BT.bls])
  refine ⟨lv, pl, some ⟨b, 0, none⟩, rfl, ?_, (hl.set n1.2.1 _ _).set m1 _ _, lev, pm, pr, rfl, ?_, (hm.set n1.2.2 _ _).set m2 _ _, (hr.set n2 _ _).set g5 _ _⟩
  · simpa using (hg.far (p := ⟨b, 7, none⟩) (fun e => n1.1 e.symm) _).set_ 8 (.pointer (some ⟨b, 0, none⟩))
  · simpa using (hb.set_ 7 (.pointer pm)).far (p := ⟨g, 8, none⟩) n1.1 _
/-- The right node is lifted, and is a level higher. -/
theorem rot_right {w : World} {b g : Nat} {l m r : BT} {c x : Cel} {lev lv : Int} {pr pl pm : Option Addr} (hb : Bk w b 67 (ndv c lev pl (some ⟨g, 0, none⟩))) (hg : Bk w g 67 (ndv x lv pm pr))
    (hl : Tre w pl l) (hm : Tre w pm m) (hr : Tre w pr r) (nd : (BT.node b l c (.node g m x r)).bls.Nodup) (lv' : Int) :
    Tre (((w.setCell ⟨b, 8, none⟩ (.pointer pm)).setCell ⟨g, 7, none⟩ (.pointer (some ⟨b, 0, none⟩))).setCell ⟨g, 6, none⟩ (.int .i64 lv')) (some ⟨g, 0, none⟩) (.node g (.node b l c m) x r) := by
  obtain ⟨n1, n2, n3, n4, n5⟩ := nd_node nd
  obtain ⟨m1, m2, m3, m4, m5⟩ := nd_node n4
  simp only [BT.bls, List.mem_cons, List.mem_append, not_or] at n2
  have g5 : g ∉ l.bls := fun h => n5 g h (by simp [BT.bls])
  refine ⟨lv', some ⟨b, 0, none⟩, pr, rfl, ?_, ⟨lev, pl, pm, rfl, ?_, ((hl.set n1 _ _).set g5 _ _).set g5 _ _, ((hm.set n2.2.1 _ _).set m1 _ _).set m1 _ _⟩, ((hr.set n2.2.2 _ _).set m2 _ _).set m2 _ _⟩
  · simpa using ((hg.far (p := ⟨b, 8, none⟩) (fun e => n2.1 e.symm) _).set_ 7 (.pointer (some ⟨b, 0, none⟩))).set_ 6 (.int .i64 lv')
  · simpa using ((hb.set_ 8 (.pointer pm)).far (p := ⟨g, 7, none⟩) n2.1 _).far (p := ⟨g, 6, none⟩) n2.1 _

/-- The left node is lifted, or all is as it was. -/
def TreP (w : World) (t : BT) (e : Ending) (w' : World) : Prop :=
  ∃ g l c r, e = .returned (.pointer (some ⟨g, 0, none⟩)) ∧ Tre w' (some ⟨g, 0, none⟩) (.node g l c r) ∧ (BT.node g l c r).ino = t.ino ∧ (BT.node g l c r).bls.Perm t.bls ∧ Buts t.bls w w'

set_option maxHeartbeats 4000000 in
theorem skew_any (b : Nat) (l : BT) (c : Cel) (r : BT) (w : World) (h : Tre w (some ⟨b, 0, none⟩) (.node b l c r)) (nd : (BT.node b l c r).bls.Nodup) :
    Calls Try.prog 42 #[.pointer (some ⟨b, 0, none⟩)] w (TreP w (.node b l c r)) := by
  have h0 := h
  obtain ⟨lev, pl, pr, -, hb, hl, hr⟩ := h
  have c6 : w.cell? ⟨b, 6, none⟩ = some (.int .i64 lev) := hb.cell 6
  have c7 : w.cell? ⟨b, 7, none⟩ = some (.pointer pl) := hb.cell 7
  have fb := hb.fr
  have HB := Lib.hid hb
  cases l with
  | leaf =>
    obtain rfl : pl = none := hl
    clear hb
    go_enter Try.func42, Try.ntmps42
    go_wp2_with fail
    go_quiet (fail)
    go_wp2
    go_ret
    exact ⟨b, .leaf, c, r, rfl, h0.old ((Old.re _).dn _), rfl, List.Perm.refl _, .of_old ((Old.re _).dn _)⟩
  | node bl ll cl rl =>
    obtain ⟨levl, pll, plr, rfl, hbl, hll, hlr⟩ := hl
    have d6 : w.cell? ⟨bl, 6, none⟩ = some (.int .i64 levl) := hbl.cell 6
    have d8 : w.cell? ⟨bl, 8, none⟩ = some (.pointer plr) := hbl.cell 8
    have fbl := hbl.fr
    by_cases hlt : levl < lev
    · have hd : decide (levl < lev) = true := decide_eq_true hlt
      clear hb hbl
      go_enter Try.func42, Try.ntmps42
      go_wp2_with fail
      go_quiet (fail)
      go_wp2
      go_ret
      exact ⟨b, .node bl ll cl rl, c, r, rfl, h0.old ((Old.re _).dn _), rfl, List.Perm.refl _, .of_old ((Old.re _).dn _)⟩
    · have hd : decide (levl < lev) = false := decide_eq_false hlt
      have HR := Lib.hid fun (w' : World) (o : Old w w') => rot_left (HB.out.old o) (hbl.old o) (hll.old o) (hlr.old o) (hr.old o) nd
      have ne : b ≠ bl := fun e => (nd_node nd).1 (by simp [BT.bls, e])
      clear hb hbl h0 hll hlr hr
      go_enter Try.func42, Try.ntmps42
      go_wp2_with fail
      go_quiet (fail)
      go_wp2
      go_ret
      refine ⟨bl, _, _, _, rfl, HR.out _ ((Old.re _).dn _), by simp [BT.ino], ?_, ((Buts.of_old ((Old.re _).dn _)).st ?_ _ _).st ?_ _ _⟩
      all_goals simp [BT.bls]
      exact (List.perm_middle (a := b) (l₁ := bl :: ll.bls) (l₂ := rl.bls ++ r.bls)).trans (List.Perm.refl _)

set_option maxHeartbeats 4000000 in
theorem split_any (b : Nat) (l : BT) (c : Cel) (r : BT) (w : World) (h : Tre w (some ⟨b, 0, none⟩) (.node b l c r)) (nd : (BT.node b l c r).bls.Nodup) :
    Calls Try.prog 43 #[.pointer (some ⟨b, 0, none⟩)] w (TreP w (.node b l c r)) := by
  have h0 := h
  obtain ⟨lev, pl, pr, -, hb, hl, hr⟩ := h
  have c6 : w.cell? ⟨b, 6, none⟩ = some (.int .i64 lev) := hb.cell 6
  have c8 : w.cell? ⟨b, 8, none⟩ = some (.pointer pr) := hb.cell 8
  have fb := hb.fr
  have HB := Lib.hid hb
  cases r with
  | leaf =>
    obtain rfl : pr = none := hr
    clear hb
    go_enter Try.func43, Try.ntmps43
    go_wp2_with fail
    go_quiet (fail)
    go_wp2
    go_ret
    exact ⟨b, l, c, .leaf, rfl, h0.old ((Old.re _).dn _), rfl, List.Perm.refl _, .of_old ((Old.re _).dn _)⟩
  | node br lr cr rr =>
    obtain ⟨levr, plr, prr, rfl, hbr, hlr, hrr⟩ := hr
    have d6 : w.cell? ⟨br, 6, none⟩ = some (.int .i64 levr) := hbr.cell 6
    have d7 : w.cell? ⟨br, 7, none⟩ = some (.pointer plr) := hbr.cell 7
    have d8 : w.cell? ⟨br, 8, none⟩ = some (.pointer prr) := hbr.cell 8
    have fbr := hbr.fr
    cases rr with
    | leaf =>
      obtain rfl : prr = none := hrr
      clear hb hbr
      go_enter Try.func43, Try.ntmps43
      go_wp2_with fail
      go_quiet (fail)
      go_wp2
      go_ret
      exact ⟨b, l, c, .node br lr cr .leaf, rfl, h0.old ((Old.re _).dn _), rfl, List.Perm.refl _, .of_old ((Old.re _).dn _)⟩
    | node b3 l3 x3 r3 =>
      have HT := Lib.hid hrr
      obtain ⟨lev3, pl3, pr3, rfl, hb3, hl3, hr3⟩ := hrr
      have e6 : w.cell? ⟨b3, 6, none⟩ = some (.int .i64 lev3) := hb3.cell 6
      by_cases hlt : lev3 < lev
      · have hd : decide (lev3 < lev) = true := decide_eq_true hlt
        clear hb hbr hb3
        go_enter Try.func43, Try.ntmps43
        go_wp2_with fail
        go_quiet (fail)
        go_wp2
        go_ret
        exact ⟨b, l, c, .node br lr cr (.node b3 l3 x3 r3), rfl, h0.old ((Old.re _).dn _), rfl, List.Perm.refl _, .of_old ((Old.re _).dn _)⟩
      · have hd : decide (lev3 < lev) = false := decide_eq_false hlt
        have HR := Lib.hid fun (w' : World) (o : Old w w') (lv : Int) => rot_right (HB.out.old o) (hbr.old o) (hl.old o) (hlr.old o) (HT.out.old o) nd lv
        have ne : b ≠ br := fun e => (nd_node nd).2.1 (by simp [BT.bls, e])
        clear hb hbr hb3 h0 hl hlr hl3 hr3 HT
        go_enter Try.func43, Try.ntmps43
        go_wp2_with fail
        go_quiet (fail)
        go_wp2
        go_ret
        refine ⟨br, _, _, _, rfl, HR.out _ ((Old.re _).dn _) _, by simp [BT.ino], ?_, (((Buts.of_old ((Old.re _).dn _)).st ?_ _ _).st ?_ _ _).st ?_ _ _⟩
        all_goals simp [BT.bls]
        exact (List.Perm.swap _ _ _).trans (((List.perm_middle (a := br) (l₁ := l.bls) (l₂ := lr.bls ++ (b3 :: (l3.bls ++ r3.bls)))).symm.trans (by simp)).cons b)
end Go.Proofs.Ythanenblcplbhaa
