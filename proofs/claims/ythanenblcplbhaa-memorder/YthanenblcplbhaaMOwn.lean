/-
  Tables that a law has made: each call over them. bounded and shown. Conditions: lengths as written.
-/
import Derived.Test.YthanenblcplbhaaMPut
import Derived.Test.YthanenblcplbhaaCSho
namespace Go.Proofs.Ythanenblcplbhaa
set_option maxRecDepth 100000
open Go.RowKit Go.Shelf

/-- A table that was made since w: nothing that lay there in w was written. -/
structure Ow (w W : World) (tb : Nat) (t : BT) : Prop where
  tbl : Tbl W tb t
  new_ : ∀ i ∈ tb :: t.bls, w.heap.size ≤ i
  od : Old w W
theorem Buts.below {L : List Nat} {w W W' : World} (h : Buts L W W') (o : Old w W) (hL : ∀ i ∈ L, w.heap.size ≤ i) : Old w W' :=
  ⟨h.os.trans o.os, h.tape.trans o.tape, h.output.trans o.output, Nat.le_trans o.size h.size, fun i hi => (h.block i (Nat.lt_of_lt_of_le hi o.size) (fun hm => by have := hL i hm; omega)).trans (o.block i hi)⟩
theorem Ow.old {w W W' : World} {tb : Nat} {t : BT} (h : Ow w W tb t) (o : Old W W') : Ow w W' tb t := ⟨h.tbl.old o, h.new_, h.od.tr o⟩
theorem Ow.put {w W W' : World} {tb : Nat} {t : BT} {c : Cel} {e : Ending} (h : Ow w W tb t) (hp : PutP tb t c W e W') :
    e = .returned (.int .i64 (putE c t.ino)) ∧ ∃ t' : BT, Ow w W' tb t' ∧ t'.ino = putL c t.ino ∧ (∀ i ∈ t'.bls, i ∈ t.bls ∨ W.heap.size ≤ i) ∧ Buts (tb :: t.bls) W W' := by
  obtain ⟨he, t', h1, h2, h3, h4⟩ := hp
  refine ⟨he, t', ⟨h1, fun i hi => ?_, h4.below h.od h.new_⟩, h2, h3, h4⟩
  rcases List.mem_cons.1 hi with rfl | hi
  · exact h.new_ i (by simp)
  · rcases h3 i hi with h5 | h5
    · exact h.new_ i (by simp [h5])
    · exact Nat.le_trans h.od.size h5
/-- A block of another type than a table's stays. -/
theorem Buts.other {W W' : World} {tb : Nat} {t : BT} (h : Tbl W tb t) (k : Buts (tb :: t.bls) W W') {j : Nat} {ty : TypeId} {cs : Array Value} (hj : Bk W j ty cs) (h1 : ty ≠ 47) (h2 : ty ≠ 67) : Bk W' j ty cs := by
  refine k.bk hj fun hm => ?_
  obtain ⟨p, hb, ht⟩ := h.box
  rcases List.mem_cons.1 hm with rfl | hm
  · exact h1 (hj.uniq hb)
  · obtain ⟨cs', hc⟩ := ht.ty j hm
    exact h2 (hj.uniq hc)
theorem OwnC.buts {W W' : World} {tb : Nat} {t : BT} {b : Nat} {v : Value} {L : List Cel} (h : OwnC W b v L) (ht : Tbl W tb t) (k : Buts (tb :: t.bls) W W') : OwnC W' b v L := by
  refine ⟨h.1, h.2.imp id fun ⟨g, cap, cur, hv, hb, hg, rest⟩ => ⟨g, cap, cur, hv, hb, ?_, rest⟩⟩
  exact k.other ht hg (by decide) (by decide)
/-- Cells put in, one behind the other. -/
def puts (L l : List Cel) : List Cel := l.foldl (fun L c => putL c L) L
theorem puts_snoc (L l : List Cel) (c : Cel) : puts L (l ++ [c]) = putL c (puts L l) := by simp [puts]
theorem putL_len (c : Cel) (L : List Cel) : (putL c L).length ≤ L.length + 1 := by
  unfold putL
  split
  · rw [lput_len]; omega
  · omega
theorem puts_len : ∀ (l L : List Cel), (puts L l).length ≤ L.length + l.length
  | [], L => Nat.le_refl _
  | c :: l, L => by
    have h1 := puts_len l (putL c L)
    have h2 := putL_len c L
    simp only [puts, List.foldl_cons, List.length_cons] at h1 ⊢
    omega
theorem take_snoc {α : Type} {l : List α} {i : Nat} {c : α} (h : l[i]? = some c) : l.take (i + 1) = l.take i ++ [c] := by
  obtain ⟨h2, h3⟩ := List.getElem?_eq_some_iff.1 h
  rw [List.take_succ_eq_append_getElem h2, h3]

def smallC (c : Cel) : Bool := decide (c.row.length ≤ 100) && decide (c.col.length ≤ 100) && decide (c.val.length ≤ 200)
def boundedL (l : List Cel) : Bool := l.all smallC && decide (l.length ≤ 80)
theorem bounded_no {l : List Cel} {k : Nat} {c : Cel} (hc : l[k]? = some c) (h : 100 < c.row.length ∨ 100 < c.col.length ∨ 200 < c.val.length) : boundedL l = false := by
  have hm := List.mem_of_getElem? hc
  have : l.all smallC = false := by
    rw [List.all_eq_false]
    refine ⟨c, hm, ?_⟩
    simp [smallC]
    omega
  simp [boundedL, this]
theorem bounded_yes {l : List Cel} (h : ∀ c ∈ l, smallC c = true) : boundedL l = decide (l.length ≤ 80) := by
  unfold boundedL
  rw [List.all_eq_true.2 h]
  simp
theorem bounded_len {l : List Cel} (h : boundedL l = true) : l.length ≤ 80 := by
  unfold boundedL at h
  simp at h
  exact h.2
set_option maxHeartbeats 4000000 in
theorem bounded_any (w : World) (v : Value) (l : List Cel) (h : Cels w v l) (hl : l.length ≤ maxLen) :
    Calls Try.prog 7 #[v] w fun e w' => e = .returned (.bool (boundedL l)) ∧ w' = w := by
  obtain ⟨A, cap, rfl, hc⟩ := h.form
  have hm : l.length ≤ 9223372036854775807 := by unfold maxLen at hl; omega
  have HI := Lib.hid h
  clear h hl
  go_enter Try.func7, Try.ntmps7
  go_wp2_with fail
  go_loop [3] (fun iv => ∃ k : Nat, iv = .int .i64 k ∧ k ≤ l.length ∧ Hid (∀ c ∈ l.take k, smallC c = true)) (fun iv => l.length - (intOf iv).toNat)
  case atStart => exact ⟨0, rfl, Nat.zero_le _, Lib.hid (by simp)⟩
  case round =>
    obtain ⟨k, rfl, hk, HB⟩ := hrel
    by_cases hlt : k < l.length
    · obtain ⟨c, HX⟩ : ∃ c, Hid (l[k]? = some c) := ⟨l[k], Lib.hid (List.getElem?_eq_getElem hlt)⟩
      obtain ⟨b, off, rfl, hx⟩ := HI.out.at_ HX.out
      obtain ⟨x0, x1, x2, x3, x4, x5⟩ := hx.held
      have HNo := Lib.hid fun h => bounded_no HX.out h
      have HYes := Lib.hid (show (c.row.length ≤ 100 ∧ c.col.length ≤ 100 ∧ c.val.length ≤ 200) → ∀ c ∈ l.take (k + 1), smallC c = true from fun h c' hc' => by
        rw [take_snoc HX.out] at hc'
        rcases List.mem_append.1 hc' with hc' | hc'
        · exact HB.out c' hc'
        · rw [List.mem_singleton.1 hc']; simp [smallC]; omega)
      clear HX hx
      by_cases h1 : c.row.length ≤ 100
      · by_cases h2 : c.col.length ≤ 100
        · by_cases h3 : c.val.length ≤ 200
          · go_wp2
            go_round
            case rel => exact ⟨k + 1, by go_num, by omega, Lib.hid (HYes.out ⟨h1, h2, h3⟩)⟩
            case measure => simp [intOf]; omega
          · go_wp2
            go_ret
            exact ⟨ret_bool (by rw [HNo.out (by omega)]), rfl⟩
        · go_wp2
          go_ret
          exact ⟨ret_bool (by rw [HNo.out (by omega)]), rfl⟩
      · go_wp2
        go_ret
        exact ⟨ret_bool (by rw [HNo.out (by omega)]), rfl⟩
    · obtain rfl : k = l.length := by omega
      have HE := Lib.hid (show boundedL l = decide (l.length ≤ 80) by have := HB.out; rw [List.take_length] at this; exact bounded_yes this)
      clear HB
      go_wp2
      go_ret
      refine ⟨ret_bool ?_, rfl⟩
      rw [HE.out]
      by_cases g : l.length ≤ 80 <;> simp [g] <;> omega

def sB : Cel := ⟨[98], [99], 0, 0, false, []⟩
def sA : Cel := ⟨[97], [99], 0, 0, false, []⟩
theorem s_put1 : putE sB [] = 0 ∧ putL sB [] = [sB] := ⟨by decide, rfl⟩
theorem s_put2 : putE sA [sB] = 0 ∧ putL sA [sB] = [sA, sB] := ⟨by decide, rfl⟩
theorem s_put3 : putE sA [sA, sB] = 4 ∧ putL sA [sA, sB] = [sA, sB] := ⟨by decide, rfl⟩
theorem s_tot : totB [sA, sB] = 44 := by decide
theorem s_ok : sA.ok ∧ sB.ok := by unfold Cel.ok sA sB; decide
set_option maxHeartbeats 8000000 in
theorem shown_any (w : World) : Calls Try.prog 8 #[] w fun e w' => e = .returned (.bool true) ∧ Old w w' := by
  have HP := Lib.hid fun (tb : Nat) (t : BT) (c : Cel) (W : World) (h : Ow w W tb t) (hc : c.ok) (hL : t.ino.length ≤ 1000000) => (put_any tb t c W h.tbl hc hL).mono fun e w' hp => h.put hp
  go_enter Try.func8, Try.ntmps8
  go_wp2_with fail
  refine (new_any w).mono ?_
  rintro e w1 ⟨rfl, h1, hlt1, o1⟩
  have w1' : Ow w w1 w.heap.size .leaf := ⟨h1, by simp [BT.bls], o1⟩
  have C1 := Lib.hid (HP.out _ _ sB w1 w1' s_ok.2 (by simp [BT.ino]))
  clear h1 w1' hlt1 o1
  go_wp2_with fail
  refine C1.out.mono ?_
  rintro e w2 ⟨rfl, t2, h2, e2, -, -⟩
  rw [show BT.ino .leaf = [] from rfl] at e2 ⊢
  rw [s_put1.2] at e2
  rw [s_put1.1]
  have C2 := Lib.hid (HP.out _ _ sA w2 h2 s_ok.1 (by rw [e2]; decide))
  clear C1 h2
  go_wp2_with fail
  refine C2.out.mono ?_
  rintro e w3 ⟨rfl, t3, h3, e3, -, -⟩
  rw [e2] at e3 ⊢
  rw [s_put2.2] at e3
  rw [s_put2.1]
  have C3 := Lib.hid (HP.out _ _ sA w3 h3 s_ok.1 (by rw [e3]; decide))
  clear C2 h3
  go_wp2_with fail
  refine C3.out.mono ?_
  rintro e w4 ⟨rfl, t4, h4, e4, -, -⟩
  rw [e3] at e4 ⊢
  rw [s_put3.2] at e4
  rw [s_put3.1]
  have C4 := Lib.hid (cells_any _ _ w4 h4.tbl (by rw [e4]; decide))
  have H4 := Lib.hid h4
  clear C3 h4
  go_wp2_with fail
  refine C4.out.mono ?_
  rintro e w5 ⟨u, rfl, hu, o5⟩
  rw [e4] at hu
  have h5 := H4.out.old o5
  have C5 := Lib.hid (many_any _ _ w5 h5.tbl)
  obtain ⟨A5, cap5, rfl, -⟩ := hu.cels.form
  obtain ⟨b5, off5, rfl, hx⟩ := hu.cels.at_ (i := 0) (x := sA) rfl
  have x0 := hx.a0
  simp only [Nat.zero_mul, Nat.add_zero] at x0
  have H5 := Lib.hid h5
  clear C4 hu o5 h5 hx
  simp only [List.length_cons, List.length_nil, Nat.zero_add, Nat.reduceAdd, sA] at x0 ⊢
  go_wp2_with fail
  refine C5.out.mono ?_
  rintro e w6 ⟨rfl, o6⟩
  have h6 := H5.out.old o6
  have C6 := Lib.hid (bytes_any _ _ w6 h6.tbl)
  have H6 := Lib.hid h6
  clear C5 o6 h6
  rw [e4]
  go_wp2_with fail
  refine C6.out.mono ?_
  rintro e w7 ⟨rfl, o7⟩
  have h7 := (H6.out.old o7).od
  rw [e4, s_tot]
  clear C6 H6 H5 o7
  go_wp2
  go_ret
  exact ⟨rfl, h7⟩
end Go.Proofs.Ythanenblcplbhaa
