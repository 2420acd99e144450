/-
  allSorted, Group, Pass: lists that are merged, some at a time. Conditions: lengths as written.
-/
import Derived.Test.YtbccpplpfcfboaaMChk
import Derived.Test.YtbccpplpfcfboaaMMrg
import Derived.Test.YtbccpplpfcfboaaRSrr
namespace Go.Proofs.Ytbccpplpfcfboaa
open Go.RowKit Go.Shelf

attribute [local go_sem] Oper.semAt_some

theorem strict_of_sorted : ∀ l : List Itm, sortedB l = true → Strict l
  | [], _ => List.Pairwise.nil
  | [x], _ => List.pairwise_singleton _ _
  | x :: y :: l, h => by
    rw [sortedB, Bool.and_eq_true, Bool.and_eq_true] at h
    obtain ⟨⟨h1, h2⟩, h3⟩ := h
    have ih := strict_of_sorted (y :: l) h3
    have h4 : sameI x y = false := by simpa using h2
    rw [sameI_no] at h4
    have h5 : cmpI x y < 0 := by simpa using h1
    have hk : cmpK x y = -1 := by rcases cmpI_cases x y with k | k | k | k | k <;> omega
    refine List.pairwise_cons.2 ⟨fun z hz => ?_, ih⟩
    rcases List.mem_cons.1 hz with rfl | hz
    · exact hk
    · exact cmpK_trans hk ((List.pairwise_cons.1 ih).1 z hz)
theorem sorted_iff (l : List Itm) : sortedB l = true ↔ Strict l := ⟨strict_of_sorted l, sorted_strict l⟩
/-- Are all lists in order? -/
def allB (Ls : List (List Itm)) : Bool := Ls.all sortedB
theorem allB_iff (Ls : List (List Itm)) : allB Ls = true ↔ ∀ L ∈ Ls, Strict L := by
  unfold allB
  rw [List.all_eq_true]
  exact ⟨fun h L hL => (sorted_iff L).1 (h L hL), fun h L hL => (sorted_iff L).2 (h L hL)⟩
theorem allB_no {Ls : List (List Itm)} {k : Nat} {L : List Itm} (h : Ls[k]? = some L) (hs : sortedB L = false) : allB Ls = false := by
  rw [← Bool.not_eq_true, allB_iff]
  intro h1
  have := (sorted_iff L).2 (h1 L (List.mem_of_getElem? h))
  rw [hs] at this
  cases this

set_option maxHeartbeats 4000000 in
theorem allSorted_any (w : World) (v : Value) (Ls : List (List Itm)) (h : Lsts w v Ls) (hl : Ls.length ≤ 50000) (ht : ∀ L ∈ Ls, L.length ≤ 100000) :
    Calls Try.prog 28 #[v] w fun e w' => e = .returned (.bool (allB Ls)) ∧ Old w w' := by
  obtain ⟨A, cap, rfl, hc⟩ := h.form
  have HI := Lib.hid h
  have HT := Lib.hid ht
  clear h ht
  go_enter Try.func28, Try.ntmps28
  go_wp2_with fail
  go_loopw [7] (fun iv wr => ∃ k : Nat, iv = .int .i64 k ∧ k ≤ Ls.length ∧ Old w wr ∧ Hid (allB (Ls.take k) = true)) (fun iv _ => Ls.length - (intOf iv).toNat)
  case atStart => exact ⟨0, rfl, Nat.zero_le _, Old.re _, Lib.hid rfl⟩
  case round =>
    obtain ⟨k, rfl, hk, o1, HA⟩ := hrel
    by_cases hlt : k < Ls.length
    · obtain ⟨L, HX⟩ : ∃ L, Hid (Ls[k]? = some L) := ⟨Ls[k], Lib.hid (List.getElem?_eq_getElem hlt)⟩
      obtain ⟨b, off, u, rfl, hu, hit⟩ := (HI.out.old o1).at_ HX.out
      have C := sorted_any wr u L hit (HT.out L (List.mem_of_getElem? HX.out))
      clear hit
      go_wp2_with fail
      refine C.mono ?_
      clear C hu
      rintro e w1 ⟨rfl, o2⟩
      have o3 := o1.tr o2
      clear o1 o2
      cases hs : sortedB L with
      | true =>
        have HA2 : Hid (allB (Ls.take (k + 1)) = true) := Lib.hid (by
          rw [← take_at HX.out]
          have := HA.out
          unfold allB at this ⊢
          rw [List.all_append, this]
          simp [hs])
        clear hs HA HX
        go_wp2
        go_round
        case rel => exact ⟨k + 1, by go_num, by omega, o3, HA2⟩
        case measure => simp [intOf]; omega
      | false =>
        have HF := Lib.hid (allB_no HX.out hs)
        clear hs HA HX
        go_wp2
        go_ret
        exact ⟨ret_bool HF.out.symm, o3⟩
    · obtain rfl : k = Ls.length := by omega
      have HF := Lib.hid HA.out
      go_wp2
      go_ret
      have := HF.out
      rw [List.take_length] at this
      exact ⟨ret_bool this.symm, o1⟩

/-- What Group answers. -/
def GroupR (Ls : List (List Itm)) (out : List Itm) : Prop := (allB Ls = true ∧ IsRes Ls.flatten out) ∨ (allB Ls = false ∧ out = [])
theorem GroupR.uniq {Ls : List (List Itm)} {a b : List Itm} (h1 : GroupR Ls a) (h2 : GroupR Ls b) : a = b := by
  rcases h1 with ⟨p1, p2⟩ | ⟨p1, rfl⟩ <;> rcases h2 with ⟨q1, q2⟩ | ⟨q1, rfl⟩
  · exact p2.uniq q2
  · rw [p1] at q1; cases q1
  · rw [p1] at q1; cases q1
  · rfl
theorem len_flat {Ls : List (List Itm)} {L : List Itm} (h : L ∈ Ls) : L.length ≤ Ls.flatten.length := (List.sublist_flatten_of_mem h).length_le
theorem grp_flat_le (Ls : List (List Itm)) (m k : Nat) : (grp Ls m k).flatten.length ≤ Ls.flatten.length := by
  have h1 : Ls = Ls.take (k * m) ++ (grp Ls m k ++ (Ls.drop (k * m)).drop m) := by
    unfold grp
    rw [List.take_append_drop, List.take_append_drop]
  have h2 := congrArg (fun l => l.flatten.length) h1
  simp only [List.flatten_append, List.length_append] at h2
  omega
theorem merged_rit (w : World) (v : Value) (Ls : List (List Itm)) (h : Lsts w v Ls) (hl : Ls.length ≤ 50000) (ht : Ls.flatten.length ≤ 49000) (hs : ∀ L ∈ Ls, Strict L) :
    Calls Try.prog 30 #[v] w fun e w' => ∃ u out, e = .returned u ∧ IsRes Ls.flatten out ∧ out.length ≤ Ls.flatten.length ∧ Old w w' ∧ Rit w' u out :=
  (merged_any w v Ls h hl ht hs).mono fun e w' ⟨u, out, h1, h2, h3, h4, h5⟩ => ⟨u, out, h1, h2, h3, h5, by
    rcases h4.seg with q | ⟨g, cap, r, q1, q2, q3, q4⟩
    · exact .inl q
    · exact .inr ⟨g, cap, r, q1, q3, q4⟩⟩
set_option maxHeartbeats 4000000 in
theorem group_any (w : World) (v : Value) (Ls : List (List Itm)) (h : Lsts w v Ls) (hl : Ls.length ≤ 50000) (ht : Ls.flatten.length ≤ 49000) :
    Calls Try.prog 21 #[v] w fun e w' => ∃ u out, e = .returned u ∧ GroupR Ls out ∧ out.length ≤ Ls.flatten.length ∧ Old w w' ∧ Rit w' u out := by
  have C := allSorted_any w v Ls h hl (fun L hL => by have := len_flat hL; omega)
  have HI := Lib.hid h
  clear h
  go_enter Try.func21, Try.ntmps21
  go_wp2_with fail
  refine C.mono ?_
  clear C
  rintro e w1 ⟨rfl, o1⟩
  cases hs : allB Ls with
  | true =>
    have C := merged_rit w1 v Ls (HI.out.old o1) hl ht ((allB_iff Ls).1 hs)
    have HS := Lib.hid hs
    clear hs
    go_wp2_with fail
    refine C.mono ?_
    clear C
    rintro e w2 ⟨u, out, rfl, h2, h3, h4, h5⟩
    have HE := Lib.hid (And.intro h2 (And.intro h3 (And.intro h4 h5)))
    clear h2 h3 h4 h5
    go_wp2
    go_ret
    exact ⟨u, out, rfl, .inl ⟨HS.out, HE.out.1⟩, HE.out.2.1, o1.tr HE.out.2.2.1, HE.out.2.2.2⟩
  | false =>
    have HS := Lib.hid hs
    clear hs
    go_wp2
    go_ret
    exact ⟨_, [], rfl, .inr ⟨HS.out, rfl⟩, Nat.zero_le _, o1, .inl ⟨rfl, rfl⟩⟩

theorem Bk.itsC {bl : Nat} {A Z : World} {g b : Nat} {t : TypeId} {cs : Array Value} (h : Bk A b t cs) (k : Its (chkT bl) g A Z) (hbl : bl < g) (ht : t ≠ 3) : Bk Z b t cs := by
  refine k.block _ _ h ?_
  by_cases hb : b < g
  · exact .inl hb
  · refine .inr ⟨rfl, ?_⟩
    have : ¬ b = bl := by omega
    simp [mine, chkT, ht, this]
theorem Rit.keptC {bl : Nat} {A Z : World} {g : Nat} {v : Value} {l : List Itm} (h : Rit A v l) (k : Its (chkT bl) g A Z) (hbl : bl < g) : Rit Z v l := by
  rcases h with h | ⟨b, cap, r, h1, h2, h3⟩
  · exact .inl h
  · exact .inr ⟨b, cap, r, h1, h2, Bk.itsC h3 k hbl (by decide)⟩
theorem Old.itsC {bl : Nat} {w A Z : World} {g : Nat} (h : Old w A) (k : Its (chkT bl) g A Z) (hg : w.heap.size ≤ g) : Old w Z :=
  ⟨k.os.trans h.os, k.tape.trans h.tape, k.output.trans h.output, Nat.le_trans h.size k.size, fun i hi => by
    have h1 : w.heap[i]? = some w.heap[i] := Array.getElem?_eq_getElem hi
    have h2 := (h.block i hi).trans h1
    rw [h1]
    exact k.block i _ h2 (.inl (by omega))⟩
theorem Bod.grown2 {T : Nat → TypeId → Bool} {g base n sz : Nat} {A Z W : World} {t : TypeId} {v : Value} {xs : List Value} (h : Bod T g A Z) (ho : Z.ownsRow base t sz v n xs) (hT : ∀ k, base ≤ k → T k t = false) (hg : Z.grownBy W v.ownBlock) : Bod T g A W := by
  refine h.tr ⟨hg.size, fun i o hi hx => ?_⟩
  refine (hg.block i (Array.getElem?_eq_some_iff.1 hi).1 ?_).trans hi
  intro e
  rcases ho.2 with ⟨rfl, _⟩ | ⟨g', cap, cur, rfl, hbg, hgc, _⟩
  · cases e
  · have : i = g' := by simpa [Value.ownBlock] using e
    subst this
    rw [hgc] at hi
    injection hi with hi
    subst hi
    rcases hx with hx | hx
    · cases hx.2
    · rw [mine, hT i hbg] at hx; cases hx
/-- Pass between two rounds: the lists so far. -/
structure Pp (w : World) (gm base : Nat) (P : Nat → List Itm) (v : Value) (vs : List Value) (k : Nat) (W : World) : Prop where
  bx : Bk W gm 30 #[v]
  row : W.ownsRow base 32 1 v k vs
  len : vs.length = k
  all : ∀ i u, vs[i]? = some u → ∃ out, IsRes (P i) out ∧ out.length ≤ (P i).length ∧ Rit W u out
  od : Old w W
  gw : w.heap.size ≤ gm
  gb : gm < base
  sz : base ≤ W.heap.size
theorem Pp.its {bl : Nat} {w A Z : World} {gm base : Nat} {P : Nat → List Itm} {v : Value} {vs : List Value} {k : Nat} (h : Pp w gm base P v vs k A) (i : Its (chkT bl) base A Z) (hbl : bl < base) : Pp w gm base P v vs k Z := by
  refine ⟨h.bx.itsC i hbl (by decide), ⟨h.row.1, ?_⟩, h.len, fun j u hu => ?_, h.od.itsC i (by have := h.gw; have := h.gb; omega), h.gw, h.gb, Nat.le_trans h.sz i.size⟩
  · rcases h.row.2 with h1 | ⟨gg, cap, cur, hv, hb, hg, rest⟩
    · exact .inl h1
    · exact .inr ⟨gg, cap, cur, hv, hb, Bk.itsC (t := 32) hg i hbl (by decide), rest⟩
  · obtain ⟨out, h1, h2, h3⟩ := h.all j u hu
    exact ⟨out, h1, h2, h3.keptC i hbl⟩
/-- One round of Pass: what the append leaves. -/
theorem pass_step {bl : Nat} {w W w1 : World} {gm base : Nat} {P : Nat → List Itm} {v : Value} {vs : List Value} {k : Nat} {u : Value} {out : List Itm} (h : Pp w gm base P v vs k W) (hbl : bl < base) (hblg : bl ≠ gm) (hk : k ≤ 90000) (h1 : IsRes (P k) out) (h2 : out.length ≤ (P k).length) (o1 : Old W w1) (hu : Rit w1 u out) :
    ∃ v2 w2, (Builtin.append_ #[30, 30] 30 #[v, .slice (some ⟨w1.heap.size, 0, none⟩) 1 1]).run Try.prog (w1.alloc (.cells #[u] 32)) = .ok v2 w2 ∧ Bk w2 gm 30 #[v] ∧
      Pp w gm base P v2 (vs ++ [u]) (k + 1) (w2.setCell ⟨gm, 0, none⟩ v2) ∧ Bod (chkT bl) base W (w2.setCell ⟨gm, 0, none⟩ v2) := by
  have o2 : Old W (w1.alloc (.cells #[u] 32)) := o1.al _
  have hrow : (w1.alloc (.cells #[u] 32)).ownsRow base 32 1 v k vs := row_dr h.row o2
  have hsz : base ≤ (w1.alloc (.cells #[u] 32)).heap.size := Nat.le_trans h.sz o2.size
  obtain ⟨v2, w2, hr, hown, hgr⟩ := run_one (base := base) 30 32 (.slice none 0 0) 24 (by omega) Try.underlying30 rfl Try.infoSl hsz hrow u (rit_one hu) w1.heap.size 1 (new_bk _ _ _) (by omega) 30
  have hbx : Bk w2 gm 30 #[v] := (h.bx.old o2).grown hgr (by
    intro e
    have := (World.ownsRow.lt hrow gm e.symm).1
    have := h.gb
    omega)
  have hbd : Bod (chkT bl) base W w2 := (Bod.of_old o2).grown2 hrow (fun i hi => by
    have : ¬ i = bl := by omega
    simp [chkT, this]) hgr
  have hold : Old w w2 := ((h.od.tr o2)).trans ((Below.refl _ _).grown hgr (by have := h.gw; have := h.gb; omega) (fun j e => by have := (World.ownsRow.lt hrow j e).1; have := h.gw; have := h.gb; omega))
  refine ⟨v2, w2, hr, hbx, ?_, hbd.st hbx (by simp [chkT]; omega) 0 v2⟩
  have hrit : ∀ x p, Rit (w1.alloc (.cells #[u] 32)) x p → Rit (w2.setCell ⟨gm, 0, none⟩ v2) x p := fun x p hx => (hx.grown hrow hgr).set_ hbx 0 v2
  refine ⟨hbx.set_ 0 v2, row_set hown hbx (by decide), by simp [h.len], fun i x hx => ?_, hold.st (p := ⟨gm, 0, none⟩) h.gw _, h.gw, h.gb, by have := hgr.size; simp [World.setCell]; have h3 := hsz; simp at h3; omega⟩
  rcases Nat.lt_or_ge i vs.length with hi | hi
  · rw [List.getElem?_append_left hi] at hx
    obtain ⟨o, p1, p2, p3⟩ := h.all i x hx
    exact ⟨o, p1, p2, hrit _ _ (p3.old o2)⟩
  · rw [List.getElem?_append_right hi] at hx
    obtain ⟨rfl, rfl⟩ : i = vs.length ∧ x = u := by
      rcases Nat.lt_or_ge 0 (i - vs.length) with q | q
      · rw [List.getElem?_eq_none (by simp; omega)] at hx; cases hx
      · rw [show i - vs.length = 0 by omega] at hx
        simp at hx
        exact ⟨by omega, hx.symm⟩
    rw [h.len]
    exact ⟨out, h1, h2, hrit _ _ (hu.old (old_alloc _ _))⟩
/-- A row of slices, and what they read as. -/
def RowL (w : World) (v : Value) (n : Nat) (P : Nat → List Itm) : Prop := ∃ base vs, w.ownsRow base 32 1 v n vs ∧ vs.length = n ∧ ∀ i u, vs[i]? = some u → ∃ out, IsRes (P i) out ∧ out.length ≤ (P i).length ∧ Rit w u out

set_option maxRecDepth 100000 in
set_option maxHeartbeats 8000000 in
theorem pass_in (n : Nat) (hn : 3 ≤ n) (w : World) (v : Value) (Ls : List (List Itm)) (h : Lsts w v Ls) (hl : Ls.length ≤ 40000) (ht : Ls.flatten.length ≤ 49000) (hs : ∀ L ∈ Ls, Strict L) (m : Nat) (hm : 2 ≤ m) (hm2 : m ≤ 9223372036854775807) :
    CallsIn Fence.wide n Try.prog 15 #[v, .int .i64 (m : Int)] w fun e W' => ∃ u, e = .returned (.tuple #[u, .int .i64 0]) ∧ RowL W' u (many Ls.length m) (fun i => (grp Ls m i).flatten) ∧ Old w W' := by
  have h1 : 1 ≤ n := by omega
  have hm1 : 1 ≤ m := by omega
  have hmw : ¬ (m : Int) < 2 := by omega
  have C := allSorted_any w v Ls h (by omega) (fun L hL => by have := len_flat hL; omega)
  rw [(allB_iff Ls).2 hs] at C
  obtain ⟨A, cap, rfl, hc⟩ := h.form
  have HI := Lib.hid h
  have HS := Lib.hid hs
  clear h hs
  refine callsIn_of_wp_marks Try.func15 rfl trivial ?_ rfl
  simp only [Try.ntmps15, List.size_toArray, List.length_cons, List.length_nil, Nat.reduceAdd, Nat.reduceSub, Array.replicate_succ, Array.replicate_zero, List.push_toArray, List.append_toArray, List.nil_append, List.cons_append]
  gi_wp2_with fail
  refine ⟨trivial, (callsIn_wide.2 C).mono ?_⟩
  clear C
  rintro e w1 ⟨rfl, o1⟩
  gi_wp2_with (refine ⟨trivial, ?_⟩; gi_at_call 29; refine (chunk_in (n - 1) _ _ _ m hm1 _).mono ?_; rintro e w' ⟨rfl, rfl⟩)
  obtain ⟨g0, o0, hA, HL⟩ : ∃ g0 o0, (0 < Ls.length → A = some ⟨g0, o0, none⟩) ∧ Hid (∀ (i : Nat) (L : List Itm), Ls[i]? = some L → ∃ u, w.cell? ⟨g0, o0 + i, none⟩ = some u ∧ Itms w u L) := by
    by_cases h0 : Ls = []
    · refine ⟨0, 0, fun h => absurd h (by simp [h0]), Lib.hid fun i L hL => ?_⟩
      rw [h0] at hL; simp at hL
    · rcases HI.out with ⟨q, q2⟩ | ⟨A', cap', q1, q2, q3⟩
      · exact absurd q2 h0
      · obtain ⟨b, off, rfl, k⟩ := q3 h0
        injection q1 with e1 e2 e3
        exact ⟨b, off, fun _ => e1, Lib.hid k⟩
  have hsz1 := o1.size
  have t0 := ((new_bk w1 30 #[.slice none 0 0]).alloc (.cells #[.slice A Ls.length cap] 30)).alloc (.cells #[.int .i64 (m : Int)] 3)
  have t1 := (new_bk1 w1 (.cells #[.slice none 0 0] 30) 30 #[.slice A Ls.length cap]).alloc (.cells #[.int .i64 (m : Int)] 3)
  have t2 := new_bk1 (w1.alloc (.cells #[.slice none 0 0] 30)) (.cells #[.slice A Ls.length cap] 30) 3 #[.int .i64 (m : Int)]
  simp only [World.size_alloc] at t2
  have o0w : Old w (((w1.alloc (.cells #[.slice none 0 0] 30)).alloc (.cells #[.slice A Ls.length cap] 30)).alloc (.cells #[.int .i64 (m : Int)] 3)) := ((o1.al _).al _).al _
  have hsz : (((w1.alloc (.cells #[.slice none 0 0] 30)).alloc (.cells #[.slice A Ls.length cap] 30)).alloc (.cells #[.int .i64 (m : Int)] 3)).heap.size = w1.heap.size + 1 + 1 + 1 := by simp
  generalize (((w1.alloc (.cells #[.slice none 0 0] 30)).alloc (.cells #[.slice A Ls.length cap] 30)).alloc (.cells #[.int .i64 (m : Int)] 3)) = W0 at *
  clear o1
  have hb0 : w1.heap.size < W0.heap.size := by omega
  have hbl : w1.heap.size + 1 < W0.heap.size := by omega
  refine range_its (encs := encC g0 o0 Ls.length m) (T := chkT (w1.heap.size + 1)) (L := startsOf Ls.length m) rfl h1 (gf := 40) (lb := #[.pointer (some ⟨w1.heap.size + 1, 0, none⟩), .pointer (some ⟨w1.heap.size + 1 + 1, 0, none⟩)]) rfl trivial (enters_of Try.func40 (by kernel_rfl) rfl)
    (chunk_tells (n - 1) (by omega) _ _ g0 o0 Ls.length cap m A hA (by omega) hc hm1 hm2 W0 t1 t2) (fun _ => rfl)
    (fun k W => ∃ v vs, Pp w w1.heap.size W0.heap.size (fun i => (grp Ls m i).flatten) v vs k W) (fun _ _ _ => False)
    (fun _ _ _ i ⟨v, vs, h⟩ => ⟨v, vs, h.its i hbl⟩) (fun _ _ _ _ _ h => h)
    ⟨.slice none 0 0, [], t0, World.ownsRow_nil _ _ _ _, rfl, fun i u hu => by simp at hu, o0w, hsz1, hb0, Nat.le_refl _⟩
    (fun k x a' W => (∃ v vs, Pp w w1.heap.size W0.heap.size (fun i => (grp Ls m i).flatten) v vs k W) ∧ a' = { tmps := #[.slice A Ls.length cap, .int .i64 (m : Int), undef, undef, .slice none 0 0, .int .i64 0, .pointer (some ⟨w1.heap.size, 0, none⟩), .slice (some ⟨g0, o0 + x, none⟩) (min m (Ls.length - x)) (min m (Ls.length - x)), .int .i64 (m : Int), .bool false, .slice A Ls.length cap, .bool true, .bool false, .slice A Ls.length cap, .int .i64 (m : Int), .func (.func 40) #[] #[.pointer (some ⟨w1.heap.size + 1, 0, none⟩), .pointer (some ⟨w1.heap.size + 1 + 1, 0, none⟩)], .slice (some ⟨g0, o0 + x, none⟩) (min m (Ls.length - x)) (min m (Ls.length - x)), undef, undef, undef, undef, undef, undef], defers := [] })
    ?ax ?assign ?body ?done ?stop
  case ax =>
    rintro k x a' W l o o' hl ho hc ⟨⟨v, vs, hP⟩, rfl⟩
    exact ⟨⟨v, vs, hP.its (.put _ hl ho hc) hbl⟩, rfl⟩
  case assign =>
    intro l k x W K hx hP hK
    dsimp only [encC]
    gi_wp2
    exact hK _ _ (Bod.re _ _ _) ⟨hP, rfl⟩
  case body =>
    rintro l' k x a' W hx ⟨⟨v, vs, hP⟩, rfl⟩
    obtain ⟨hxk, hkN, hkm⟩ := startsOf_at hm1 hx
    have HC := Lib.hid (show ∀ W', Old W W' → Calls Try.prog 30 #[.slice (some ⟨g0, o0 + x, none⟩) (min m (Ls.length - x)) (min m (Ls.length - x))] W' fun e w' => ∃ u out, e = .returned u ∧ IsRes (grp Ls m k).flatten out ∧ out.length ≤ (grp Ls m k).flatten.length ∧ Old W' w' ∧ Rit w' u out from fun W' o => by
      have hpl := grp_len Ls m k
      rw [← hxk] at hpl
      have hsub : (grp Ls m k).flatten.length ≤ Ls.flatten.length := by
        exact grp_flat_le Ls m k
      refine merged_rit W' _ (grp Ls m k) ?_ (by omega) (by omega) (fun L hL => HS.out L (grp_mem hL))
      refine .inr ⟨⟨g0, o0 + x, none⟩, min m (Ls.length - x), by rw [hpl], by omega, fun _ => ⟨g0, o0 + x, rfl, fun i L hL => ?_⟩⟩
      have hL2 : Ls[x + i]? = some L := by
        unfold grp at hL
        rw [List.getElem?_take] at hL
        split at hL
        · rw [List.getElem?_drop, ← hxk] at hL; exact hL
        · cases hL
      obtain ⟨u, q1, q2⟩ := HL.out (x + i) L hL2
      exact ⟨u, by rw [Nat.add_assoc]; exact cell_old q1 (hP.od.tr o), q2.old (hP.od.tr o)⟩)
    have hk9 : k ≤ 90000 := by
      have : k * 1 ≤ k * m := Nat.mul_le_mul_left k hm1
      omega
    have HM := Lib.hid (show ∀ (w1 : World) (u : Value) (out : List Itm), IsRes (grp Ls m k).flatten out → out.length ≤ (grp Ls m k).flatten.length → Old W w1 → Rit w1 u out → _ from fun w1 u out a b c d => pass_step hP hbl (by omega) hk9 a b c d)
    have hbx := hP.bx
    have cb := hbx.cell 0
    simp only [List.getElem?_toArray, List.getElem?_cons_zero] at cb
    have hgl := hbx.lt
    clear hP hxk hkN hkm hx
    have hn2 : 1 ≤ n - 1 - 1 := by omega
    gi_wp2_with fail
    refine wpIn_region_any (by kernel_rfl) ?_
    refine wpAnyIn_ready (rs := [0, 1]) (by kernel_rfl) (by simp) ?_
    refine AllReadyIn.cons rfl (fun K hK => ?_) ?_
    · go_simp
      refine hK _ _ ?_
      clear hK K
      refine wpAnyIn_ready (rs := [1]) (by kernel_rfl) (by simp) ?_
      refine AllReadyIn.cons rfl (fun K hK => ?_) ?_
      · go_simp
        refine hK _ _ ?_
        clear hK K
        refine wpAnyIn_ready (rs := [2]) (by kernel_rfl) (by simp) ?_
        refine AllReadyIn.cons rfl (fun K hK => ?_) ?_
        · go_simp
          refine ⟨trivial, (CallsIn.inRound l' (callsIn_wide.2 (HC.out _ (Old.re _).dr))).mono ?_⟩
          rintro r w8 ⟨u, out, rfl, hr1, hr2, o8, ru⟩
          refine hK _ _ ?_
          clear hK K
          have o1 : Old W w8 := ⟨o8.os, o8.tape, o8.output, o8.size, o8.block⟩
          obtain ⟨Au, nu, cu, rfl⟩ := rit_form ru
          obtain ⟨v2, w2, happ, B2, hP2, bd2⟩ := HM.out w8 _ out hr1 hr2 o1 ru
          obtain ⟨A2, n2, c2, rfl⟩ := row_form hP2.row
          have cb1 := (hbx.old o1).cell 0
          have fb2 := B2.fr 0
          have cb2 := B2.cell 0
          simp only [List.getElem?_toArray, List.getElem?_cons_zero] at cb1 cb2
          have hne1 : ¬ w1.heap.size = w8.heap.size := by have := hbx.lt; have := o1.size; omega
          have hne2 : w1.heap.size < w8.heap.size := by have := hbx.lt; have := o1.size; omega
          clear hr1 hr2 o8 ru o1 B2
          refine wpAnyIn_ready (rs := [3]) (by kernel_rfl) (by simp) ?_
          refine AllReadyIn.cons rfl (fun K hK => ?_) ?_
          · go_simp
            refine hK _ _ ?_
            clear hK K
            refine wpAnyIn_ready (rs := [4]) (by kernel_rfl) (by simp) ?_
            refine AllReadyIn.cons rfl (fun K hK => ?_) ?_
            · refine step_run rfl (.tmp 17) (.tmp 20) 30 rfl _ _ _ rfl rfl happ ?_
              refine hK _ _ ?_
              clear hK K
              refine wpAnyIn_ready (rs := [5]) (by kernel_rfl) (by simp) ?_
              refine AllReadyIn.cons rfl (fun K hK => ?_) ?_
              · go_simp
                refine hK _ _ ?_
                clear hK K
                refine wpAnyIn_done (by kernel_rfl) ?_ _
                exact ⟨bd2, _, _, hP2⟩

              exact AllReadyIn.nil

            exact AllReadyIn.nil

          exact AllReadyIn.nil

        exact AllReadyIn.nil

      exact AllReadyIn.nil

    refine AllReadyIn.cons rfl (fun K hK => ?_) ?_
    · go_simp
      refine hK _ _ ?_
      clear hK K
      refine wpAnyIn_ready (rs := [0, 2]) (by kernel_rfl) (by simp) ?_
      refine AllReadyIn.cons rfl (fun K hK => ?_) ?_
      · go_simp
        refine hK _ _ ?_
        clear hK K
        refine wpAnyIn_ready (rs := [2]) (by kernel_rfl) (by simp) ?_
        refine AllReadyIn.cons rfl (fun K hK => ?_) ?_
        · go_simp
          refine ⟨trivial, (CallsIn.inRound l' (callsIn_wide.2 (HC.out _ (Old.re _).dr))).mono ?_⟩
          rintro r w8 ⟨u, out, rfl, hr1, hr2, o8, ru⟩
          refine hK _ _ ?_
          clear hK K
          have o1 : Old W w8 := ⟨o8.os, o8.tape, o8.output, o8.size, o8.block⟩
          obtain ⟨Au, nu, cu, rfl⟩ := rit_form ru
          obtain ⟨v2, w2, happ, B2, hP2, bd2⟩ := HM.out w8 _ out hr1 hr2 o1 ru
          obtain ⟨A2, n2, c2, rfl⟩ := row_form hP2.row
          have cb1 := (hbx.old o1).cell 0
          have fb2 := B2.fr 0
          have cb2 := B2.cell 0
          simp only [List.getElem?_toArray, List.getElem?_cons_zero] at cb1 cb2
          have hne1 : ¬ w1.heap.size = w8.heap.size := by have := hbx.lt; have := o1.size; omega
          have hne2 : w1.heap.size < w8.heap.size := by have := hbx.lt; have := o1.size; omega
          clear hr1 hr2 o8 ru o1 B2
          refine wpAnyIn_ready (rs := [3]) (by kernel_rfl) (by simp) ?_
          refine AllReadyIn.cons rfl (fun K hK => ?_) ?_
          · go_simp
            refine hK _ _ ?_
            clear hK K
            refine wpAnyIn_ready (rs := [4]) (by kernel_rfl) (by simp) ?_
            refine AllReadyIn.cons rfl (fun K hK => ?_) ?_
            · refine step_run rfl (.tmp 17) (.tmp 20) 30 rfl _ _ _ rfl rfl happ ?_
              refine hK _ _ ?_
              clear hK K
              refine wpAnyIn_ready (rs := [5]) (by kernel_rfl) (by simp) ?_
              refine AllReadyIn.cons rfl (fun K hK => ?_) ?_
              · go_simp
                refine hK _ _ ?_
                clear hK K
                refine wpAnyIn_done (by kernel_rfl) ?_ _
                exact ⟨bd2, _, _, hP2⟩

              exact AllReadyIn.nil

            exact AllReadyIn.nil

          exact AllReadyIn.nil

        exact AllReadyIn.nil

      refine AllReadyIn.cons rfl (fun K hK => ?_) ?_
      · go_simp
        refine ⟨trivial, (CallsIn.inRound l' (callsIn_wide.2 (HC.out _ (Old.re _).dr))).mono ?_⟩
        rintro r w8 ⟨u, out, rfl, hr1, hr2, o8, ru⟩
        refine hK _ _ ?_
        clear hK K
        have o1 : Old W w8 := ⟨o8.os, o8.tape, o8.output, o8.size, o8.block⟩
        obtain ⟨Au, nu, cu, rfl⟩ := rit_form ru
        obtain ⟨v2, w2, happ, B2, hP2, bd2⟩ := HM.out w8 _ out hr1 hr2 o1 ru
        obtain ⟨A2, n2, c2, rfl⟩ := row_form hP2.row
        have cb1 := (hbx.old o1).cell 0
        have fb2 := B2.fr 0
        have cb2 := B2.cell 0
        simp only [List.getElem?_toArray, List.getElem?_cons_zero] at cb1 cb2
        have hne1 : ¬ w1.heap.size = w8.heap.size := by have := hbx.lt; have := o1.size; omega
        have hne2 : w1.heap.size < w8.heap.size := by have := hbx.lt; have := o1.size; omega
        clear hr1 hr2 o8 ru o1 B2
        refine wpAnyIn_ready (rs := [0, 3]) (by kernel_rfl) (by simp) ?_
        refine AllReadyIn.cons rfl (fun K hK => ?_) ?_
        · go_simp
          refine hK _ _ ?_
          clear hK K
          refine wpAnyIn_ready (rs := [3]) (by kernel_rfl) (by simp) ?_
          refine AllReadyIn.cons rfl (fun K hK => ?_) ?_
          · go_simp
            refine hK _ _ ?_
            clear hK K
            refine wpAnyIn_ready (rs := [4]) (by kernel_rfl) (by simp) ?_
            refine AllReadyIn.cons rfl (fun K hK => ?_) ?_
            · refine step_run rfl (.tmp 17) (.tmp 20) 30 rfl _ _ _ rfl rfl happ ?_
              refine hK _ _ ?_
              clear hK K
              refine wpAnyIn_ready (rs := [5]) (by kernel_rfl) (by simp) ?_
              refine AllReadyIn.cons rfl (fun K hK => ?_) ?_
              · go_simp
                refine hK _ _ ?_
                clear hK K
                refine wpAnyIn_done (by kernel_rfl) ?_ _
                exact ⟨bd2, _, _, hP2⟩

              exact AllReadyIn.nil

            exact AllReadyIn.nil

          exact AllReadyIn.nil

        refine AllReadyIn.cons rfl (fun K hK => ?_) ?_
        · go_simp
          refine hK _ _ ?_
          clear hK K
          refine wpAnyIn_ready (rs := [0]) (by kernel_rfl) (by simp) ?_
          refine AllReadyIn.cons rfl (fun K hK => ?_) ?_
          · go_simp
            refine hK _ _ ?_
            clear hK K
            refine wpAnyIn_ready (rs := [4]) (by kernel_rfl) (by simp) ?_
            refine AllReadyIn.cons rfl (fun K hK => ?_) ?_
            · refine step_run rfl (.tmp 17) (.tmp 20) 30 rfl _ _ _ rfl rfl happ ?_
              refine hK _ _ ?_
              clear hK K
              refine wpAnyIn_ready (rs := [5]) (by kernel_rfl) (by simp) ?_
              refine AllReadyIn.cons rfl (fun K hK => ?_) ?_
              · go_simp
                refine hK _ _ ?_
                clear hK K
                refine wpAnyIn_done (by kernel_rfl) ?_ _
                exact ⟨bd2, _, _, hP2⟩

              exact AllReadyIn.nil

            exact AllReadyIn.nil

          exact AllReadyIn.nil

        exact AllReadyIn.nil

      exact AllReadyIn.nil

    exact AllReadyIn.nil
  case done =>
    rintro D W hD ⟨v, vs, hP⟩ hK
    have cb := hP.bx.cell 0
    simp only [List.getElem?_toArray, List.getElem?_cons_zero] at cb
    gi_wp2
    refine ⟨by simp, .inl ⟨_, _, rfl, run_takeDeferred hK, ?_⟩⟩
    have i2 : Its (chkT (w1.heap.size + 1)) W0.heap.size W (W.putObj D (.deferred none)) := .put _ hD hK rfl
    have h2 := hP.its i2 hbl
    rw [startsOf_len] at h2
    exact ⟨_, results_tmp2 rfl _ _ _, v, rfl, ⟨W0.heap.size, vs, h2.row, h2.len, h2.all⟩, h2.od⟩
  case stop =>
    rintro D c k W _ _ h _
    exact h.elim
end Go.Proofs.Ytbccpplpfcfboaa
