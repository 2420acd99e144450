/-
  The queue of lists that wait: the heap's Pop, wait. Conditions: lengths as written.
-/
import Derived.Test.YtbccpplpfcfboaaMQu5
namespace Go.Proofs.Ytbccpplpfcfboaa
open Go.RowKit

theorem down_start {ws : List Wt} {n : Nat} (h : HeapF (fun k => ws[k]?) ws.length) (hn : ws.length = n + 1) : DownF (fun k => (swp ws 0 n)[k]?) 0 n := by
  rw [swp_at (by omega) (by omega)]
  refine ⟨fun k k0 k1 k2 => ?_, fun k _ _ _ h0 => absurd h0 (by omega)⟩
  rw [swF_o _ (by omega) (by omega), swF_o _ (by omega) (by omega)]
  exact h k k0 (by omega)
set_option maxHeartbeats 8000000 in
set_option maxRecDepth 20000 in
theorem hpop_any (W0 w : World) (gq : Nat) (ws : List Wt) (h : Que W0 gq ws w) (hh : HeapF (fun k => ws[k]?) ws.length) (hl : ws.length ≤ 100000) (hne : ws ≠ []) :
    Calls Try.prog 55 #[qh gq] w fun e w' => ∃ top ws', e = .returned (.iface 97 (wv top)) ∧ ws.Perm (top :: ws') ∧ (∀ a ∈ ws, wcmp top a ≤ 0) ∧ HeapF (fun k => ws'[k]?) ws'.length ∧ Que W0 gq ws' w' ∧ Kq gq w w' := by
  obtain ⟨n, hn⟩ : ∃ n, ws.length = n + 1 := ⟨ws.length - 1, by have := List.length_pos_iff.2 hne; omega⟩
  obtain ⟨top, htop⟩ : ∃ top, ws[0]? = some top := ⟨_, List.getElem?_eq_getElem (by omega)⟩
  have HM : Hid (∀ a ∈ ws, wcmp top a ≤ 0) := Lib.hid fun a ha => by
    obtain ⟨k, hk, rfl⟩ := List.getElem_of_mem ha
    exact heap_min hh (fun k hk => ⟨_, List.getElem?_eq_getElem hk⟩) top htop k _ hk (List.getElem?_eq_getElem hk)
  have HD := Lib.hid (down_start hh hn)
  have HN := Lib.hid (And.intro hn htop)
  have HQ := Lib.hid h
  have hn2 : n < 100000 := by omega
  obtain ⟨A, cap, hb, -⟩ := h.at_
  rw [hn] at hb
  have c0 := hb.cell 0
  simp only [List.getElem?_toArray, List.getElem?_cons_zero] at c0
  have hm := meth_len w gq _ c0
  have hm2 := meth_swap w gq _ c0
  have C1 := qlen_any A (n + 1) cap w
  have hw : IntKind.i64.wrap (((n + 1 : Nat) : Int) - 1) = (n : Int) := by rw [IntKind.wrap_i64]; omega
  have hw2 : IntKind.i64.wrap ((n : Int) + 1 - 1) = (n : Int) := by rw [IntKind.wrap_i64]; omega
  clear h hh hl hne htop hn
  go_enter Try.func55, Try.ntmps55
  go_wp2_with fail
  refine C1.mono ?_
  rintro e w' ⟨rfl, rfl⟩
  clear C1 hm
  have C := qswap_any W0 w gq _ ws HQ.out hb 0 n 0 (n : Int) rfl rfl (by have := HN.out.1; omega) (by have := HN.out.1; omega)
  go_wp2_with fail
  refine C.mono ?_
  rintro e w1 ⟨⟨u, rfl⟩, q1, k1⟩
  clear C hm2 c0 hb
  have l1 : (swp ws 0 n).length = n + 1 := by rw [swp_len]; exact HN.out.1
  have C := down_any W0 w1 gq _ q1 n l1 (by omega) HD.out
  have HL := Lib.hid (And.intro l1 (And.intro q1 k1))
  clear l1 q1 k1
  go_wp2_with fail
  refine C.mono ?_
  rintro e w2 ⟨⟨u2, rfl⟩, vs, p1, p2, p3, p4, p5⟩
  clear C
  have hv : vs.length = n + 1 := by rw [p1.length_eq]; exact HL.out.1
  have hvt : vs[n]? = some top := by
    rw [p2]
    have := congrFun (swp_at (l := ws) (i := 0) (j := n) (by have := HN.out.1; omega) (by have := HN.out.1; omega)) n
    exact this.trans ((swF_r _ _ _).trans HN.out.2)
  have hsp : vs = vs.take n ++ [top] := by
    have h1 := List.take_append_drop n vs
    have h2 : vs.drop n = [top] := by
      obtain ⟨h3, h4⟩ := List.getElem?_eq_some_iff.1 hvt
      rw [List.drop_eq_getElem_cons h3, h4, List.drop_eq_nil_of_le (by omega)]
    rw [h2] at h1
    exact h1.symm
  have hvl : (vs.take n).length = n := by simp; omega
  have HE : Hid (ws.Perm (top :: vs.take n) ∧ HeapF (fun k => (vs.take n)[k]?) (vs.take n).length) := Lib.hid ⟨by
    refine ((swp_perm ws 0 n).symm.trans p1.symm).trans ?_
    rw [hsp]
    have e : (vs.take n ++ [top]).take n = vs.take n := by rw [List.take_append_of_le_length (by omega), List.take_take, Nat.min_self]
    rw [e]
    exact List.perm_append_comm, by
    rw [hvl]
    intro i h0 h1
    show wleO (vs.take n)[(i - 1) / 2]? (vs.take n)[i]?
    rw [List.getElem?_take_of_lt (by omega), List.getElem?_take_of_lt (by omega)]
    exact p3 i h0 h1⟩
  have q2 : Que W0 gq (vs.take n ++ [top]) w2 := by rw [← hsp]; exact p4
  have C := qpop_any W0 w2 gq (vs.take n) top q2 (by omega)
  have hm3 := meth_pop w2 gq
  have HK := Lib.hid ((HL.out.2.2).tr p5)
  clear p1 p2 p3 p4 p5 hv hvt hsp hvl q2
  go_wp2_with fail
  refine C.mono ?_
  rintro e w3 ⟨rfl, q3, k3⟩
  clear C hm3
  have HF := Lib.hid (And.intro q3 k3)
  clear q3 k3
  go_wp2
  go_ret
  exact ⟨top, vs.take n, rfl, HE.out.1, HM.out, HE.out.2, HF.out.1, HK.out.tr HF.out.2⟩

set_option maxHeartbeats 4000000 in
theorem wait_any (W0 w : World) (gq : Nat) (ws : List Wt) (v : Value) (l : List Itm) (i : Nat) (h : Que W0 gq ws w) (hh : HeapF (fun k => ws[k]?) ws.length) (hv : Itms W0 v l) (hl : ws.length < 100000) :
    Calls Try.prog 52 #[.pointer (some ⟨gq, 0, none⟩), v, .int .i64 (i : Int)] w fun e w' => (∃ u, e = .returned u) ∧ ∃ ws', HeapF (fun k => ws'[k]?) ws'.length ∧ Que W0 gq ws' w' ∧ Kq gq w w' ∧ ((l = [] ∧ ws' = ws) ∨ ∃ x r, l = x :: r ∧ ws'.Perm (ws ++ [⟨v, x, r, i⟩])) := by
  obtain ⟨A, cap, rfl, hc⟩ := hv.form
  cases l with
  | nil =>
    have HE := Lib.hid (And.intro hh h)
    clear h hh hv hl
    go_enter Try.func52, Try.ntmps52
    go_wp2_with fail
    exact bodyPost_end (results_none rfl _ _ _) rfl ⟨⟨_, rfl⟩, ws, HE.out.1, HE.out.2, Kq.re _ _, .inl (by simp)⟩
  | cons x r =>
    have C := hpush_any W0 w gq ws ⟨.slice A (x :: r).length cap, x, r, i⟩ h hh hv hl
    clear h hh hv hl
    have hpos : (0 : Int) < (r.length : Int) + 1 := by omega
    go_enter Try.func52, Try.ntmps52
    go_wp2_with fail
    refine C.mono ?_
    rintro e w1 ⟨⟨u, rfl⟩, ws', p1, p2, p3, p4⟩
    clear C
    have HE := Lib.hid (And.intro p1 (And.intro p2 (And.intro p3 p4)))
    clear p1 p2 p3 p4
    go_wp2
    obtain ⟨e1, e2, e3, e4⟩ := HE.out
    exact bodyPost_end (results_none rfl _ _ _) rfl ⟨⟨_, rfl⟩, ws', e2, e3, e4, .inr ⟨x, r, rfl, e1⟩⟩
end Go.Proofs.Ytbccpplpfcfboaa
