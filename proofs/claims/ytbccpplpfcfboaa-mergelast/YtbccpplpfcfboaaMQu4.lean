/-
  The queue of lists that wait: Pop; the heap's up, Push. Conditions: lengths as written.
-/
import Derived.Test.YtbccpplpfcfboaaMQu3
namespace Go.Proofs.Ytbccpplpfcfboaa
open Go.RowKit

set_option maxHeartbeats 4000000 in
theorem qpop_any (W0 w : World) (gq : Nat) (ws : List Wt) (a : Wt) (h : Que W0 gq (ws ++ [a]) w) (hl : ws.length ≤ 100000) :
    Calls Try.prog 94 #[.pointer (some ⟨gq, 0, none⟩)] w fun e w' => e = .returned (.iface 97 (wv a)) ∧ Que W0 gq ws w' ∧ Kq gq w w' := by
  obtain ⟨v, hb, hown⟩ := h.ex
  obtain ⟨g, cap, r, rfl, hg, hnc, hcm, hs, hcr⟩ := row_seg hown (by simp)
  have hia : (ws ++ [a])[ws.length]? = some a := by simp
  obtain ⟨A1, c1, ea, -⟩ := Itms.form (h.its a (by simp))
  obtain ⟨av, ax, ar, ai⟩ := a
  dsimp only at ea
  subst ea
  obtain ⟨a0, a1⟩ := hs.at_ hia
  have hs2 : SegW w g ws ((wcells ⟨.slice A1 (ax :: ar).length c1, ax, ar, ai⟩).toList ++ r) := by
    unfold SegW at hs ⊢
    rw [flatW_app, List.append_assoc] at hs
    exact hs
  have hlen : (ws ++ [(⟨.slice A1 (ax :: ar).length c1, ax, ar, ai⟩ : Wt)]).length = ws.length + 1 := by simp
  rw [hlen] at hb hnc hcr hown
  have hne : g ≠ gq := by
    rintro rfl
    unfold SegW Bk at hs
    rw [show w.heap[g]? = _ from hb] at hs
    injection hs with hs
    injection hs with _ hs
    cases hs
  have c0 := hb.cell 0
  have f0 := hb.fr 0
  simp only [List.getElem?_toArray, List.getElem?_cons_zero] at c0
  have hlt := hb.lt
  have hlt2 : g < w.heap.size := Bk.lt hs
  have hn1 : ¬ gq = w.heap.size := by omega
  have hn2 : ¬ g = w.heap.size := by omega
  have HI := Lib.hid (And.intro h.its (And.intro h.low (And.intro h.old (And.intro hb (And.intro hs2 (And.intro hg (And.intro hcm hcr)))))))
  clear h hs hs2 hown hb hia hg hcm hcr hlen
  have e1 : (ws.length : Int) + 1 - 1 = (ws.length : Int) := by omega
  go_enter Try.func94, Try.ntmps94
  go_wp2_with fail
  go_ret
  obtain ⟨p1, p2, p3, p4, p5, p6, p7, p8⟩ := HI.out
  refine ⟨rfl, ?_, (Kq.tr ((Kq.re gq w).st HI.out.2.2.2.1 (.slice (some ⟨g, 0, none⟩) ws.length cap) (.inl rfl)) (Kq.of_old (old_alloc _ _) (by simpa [World.setCell] using hlt)))⟩
  refine Que.mk2 (r := (wcells ⟨.slice A1 (ax :: ar).length c1, ax, ar, ai⟩).toList ++ r) ((p4.set_ 0 _).alloc _) rfl ((Bk.far p5 hne _).alloc _) (fun b hb => p1 b (by simp [hb])) p2 ((p3.st (p := ⟨gq, 0, none⟩) p2 _).al _) p6 ⟨p7, ?_, by omega⟩
  simp; omega

abbrev qh (gq : Nat) : Value := .iface 99 (.pointer (some ⟨gq, 0, none⟩))
theorem Que.at_ {W0 w : World} {gq : Nat} {ws : List Wt} (h : Que W0 gq ws w) : ∃ A cap, Bk w gq 92 #[.slice A ws.length cap] ∧ w.ownsRow W0.heap.size 97 2 (.slice A ws.length cap) ws.length (flatW ws) := by
  obtain ⟨v, h1, h2⟩ := h.ex
  obtain ⟨A, cap, rfl⟩ := row_sl h2
  exact ⟨A, cap, h1, h2⟩
/-- Less, asked of a queue. -/
theorem qless_q (W0 w : World) (gq : Nat) (v : Value) (ws : List Wt) (h : Que W0 gq ws w) (hv : Bk w gq 92 #[v]) (i j : Nat) (iv jv : Int) (hiv : iv = i) (hjv : jv = j) (a b : Wt) (hi : ws[i]? = some a) (hj : ws[j]? = some b) :
    Calls Try.prog 90 #[v, .int .i64 iv, .int .i64 jv] w fun e w' => e = .returned (.bool (decide (wcmp a b < 0))) ∧ Old w w' := by
  obtain ⟨v', hb, hown⟩ := h.ex
  obtain rfl := bk_uniq hv hb
  obtain ⟨g, cap, r, rfl, -, -, -, hs, -⟩ := row_seg hown (by rintro rfl; simp at hi)
  exact qless_any w g cap ws r i j iv jv hiv hjv a b hi hj hs fun c hc => (h.its c hc).old h.old
theorem Que.old_ {W0 w w' : World} {gq : Nat} {ws : List Wt} (h : Que W0 gq ws w) (o : Old w w') : Que W0 gq ws w' := by
  obtain ⟨v, h1, h2⟩ := h.ex
  exact ⟨⟨v, h1.old o, row_dr h2 o⟩, h.its, h.low, h.old.tr o⟩

set_option maxHeartbeats 4000000 in
set_option maxRecDepth 20000 in
theorem up_any (W0 w : World) (gq : Nat) (ws : List Wt) (h : Que W0 gq ws w) (j : Nat) (hj : j < ws.length) (hl : ws.length ≤ 100000) (hu : UpF (fun k => ws[k]?) j ws.length) :
    Calls Try.prog 71 #[qh gq, .int .i64 (j : Int)] w fun e w' => (∃ u, e = .returned u) ∧ ∃ ws', ws'.Perm ws ∧ HeapF (fun k => ws'[k]?) ws'.length ∧ Que W0 gq ws' w' ∧ Kq gq w w' := by
  have HU := Lib.hid hu
  have HQ := Lib.hid h
  clear hu h
  go_enter Try.func71, Try.ntmps71
  go_wp2_with fail
  go_loopw [1] (fun jv wr => ∃ (j' : Nat) (vs : List Wt), jv = .int .i64 j' ∧ j' < vs.length ∧ vs.length ≤ 100000 ∧ Hid (vs.Perm ws ∧ UpF (fun k => vs[k]?) j' vs.length ∧ Kq gq w wr) ∧ Hid (Que W0 gq vs wr)) (fun jv _ => (intOf jv).toNat)
  case atStart => exact ⟨j, ws, rfl, hj, hl, Lib.hid ⟨List.Perm.refl _, HU.out, Kq.re _ _⟩, HQ⟩
  case round =>
    obtain ⟨j', vs, rfl, hj', hlen, HP, HV⟩ := hrel
    by_cases h0 : j' = 0
    · subst h0
      go_wp2_with fail
      exact bodyPost_end (results_none rfl _ _ _) rfl ⟨⟨_, rfl⟩, vs, HP.out.1, up_stop HP.out.2.1 (fun e => absurd e (by omega)), HV.out, HP.out.2.2⟩
    · obtain ⟨i, hi⟩ : ∃ i, (j' - 1) / 2 = i := ⟨_, rfl⟩
      have hq : ((j' : Int) - 1).tdiv 2 = (i : Int) := by
        rw [Int.tdiv_eq_ediv_of_nonneg (by omega)]
        omega
      have hne : ((i : Int) == (j' : Int)) = false := by simp; omega
      have hij : i < j' := by omega
      have hil : i < vs.length := by omega
      have HH := Lib.hid hi
      clear hi
      obtain ⟨A, cap, hb, hown⟩ := HV.out.at_
      have c0 := hb.cell 0
      simp only [List.getElem?_toArray, List.getElem?_cons_zero] at c0
      have hm := meth_less wr gq _ c0
      have HIJ := Lib.hid hij
      clear hown hij
      obtain ⟨a, ha⟩ : ∃ a, vs[j']? = some a := ⟨_, List.getElem?_eq_getElem hj'⟩
      obtain ⟨b, hib⟩ : ∃ b, vs[i]? = some b := ⟨_, List.getElem?_eq_getElem hil⟩
      have HA := Lib.hid (And.intro ha hib)
      clear ha hib
      have C := qless_q W0 wr gq _ vs HV.out hb j' i (j' : Int) (i : Int) rfl rfl a b HA.out.1 HA.out.2
      go_wp2_with fail
      refine C.mono ?_
      clear C
      rintro e w1 ⟨rfl, o1⟩
      have hb1 := hb.old o1
      have c1 := hb1.cell 0
      simp only [List.getElem?_toArray, List.getElem?_cons_zero] at c1
      have hm1 := meth_swap w1 gq _ c1
      clear c0 hm
      by_cases hlt : wcmp a b < 0
      · have hdec : decide (wcmp a b < 0) = true := by simpa using hlt
        rw [hdec]
        clear hdec
        have HL := Lib.hid hlt
        clear hlt
        go_wp2_with fail
        refine (qswap_any W0 w1 gq _ vs (HV.out.old_ o1) hb1 i j' _ _ rfl rfl hil hj').mono ?_
        rintro e w2 ⟨⟨u, rfl⟩, q2, k2⟩
        have HF : Hid ((swp vs i j').Perm ws ∧ UpF (fun k => (swp vs i j')[k]?) i (swp vs i j').length ∧ Kq gq w w2) := Lib.hid ⟨(swp_perm vs i j').trans HP.out.1, by
          rw [swp_at hil hj', swp_len]
          exact up_step HP.out.2.1 (by omega) hj' HH.out HA.out.1 HA.out.2 HL.out, (HP.out.2.2.tr (Kq.of_old o1 hb.lt)).tr k2⟩
        have HQ2 := Lib.hid q2
        have hl2 := swp_len vs i j'
        clear q2 k2 c1 hm1 hb hb1 o1 HP HV hq hne
        go_wp2
        go_round
        case rel => exact ⟨i, swp vs i j', by go_num, by omega, by omega, HF, HQ2⟩
        case measure => have := HIJ.out; simp [intOf]; omega
      · have hdec : decide (wcmp a b < 0) = false := by simpa using hlt
        rw [hdec]
        clear hdec hm1 c1
        have HF : Hid (HeapF (fun k => vs[k]?) vs.length) := Lib.hid (up_stop HP.out.2.1 fun _ => by
          rw [HH.out]
          exact .mk HA.out.2 HA.out.1 (by have := wcmp_neg a b; omega))
        clear hlt
        go_wp2
        exact bodyPost_end (results_none rfl _ _ _) rfl ⟨⟨_, rfl⟩, vs, HP.out.1, HF.out, HV.out.old_ o1, HP.out.2.2.tr (Kq.of_old o1 hb.lt)⟩

/-- The heap's lists, with one more behind. -/
theorem up_new {ws : List Wt} {a : Wt} (h : HeapF (fun k => ws[k]?) ws.length) : UpF (fun k => (ws ++ [a])[k]?) ws.length (ws ++ [a]).length := by
  refine ⟨fun i h0 h1 h2 => ?_, fun i h0 h1 h2 _ => ?_⟩
  · simp at h1
    have := h i h0 (by omega)
    show wleO (ws ++ [a])[(i - 1) / 2]? (ws ++ [a])[i]?
    rw [List.getElem?_append_left (by omega), List.getElem?_append_left (by omega)]
    exact this
  · simp at h1
    omega
set_option maxHeartbeats 4000000 in
theorem hpush_any (W0 w : World) (gq : Nat) (ws : List Wt) (a : Wt) (h : Que W0 gq ws w) (hh : HeapF (fun k => ws[k]?) ws.length) (ha : Wok W0 a) (hl : ws.length < 100000) :
    Calls Try.prog 63 #[qh gq, .iface 97 (wv a)] w fun e w' => (∃ u, e = .returned u) ∧ ∃ ws', ws'.Perm (ws ++ [a]) ∧ HeapF (fun k => ws'[k]?) ws'.length ∧ Que W0 gq ws' w' ∧ Kq gq w w' := by
  have HQ := Lib.hid h
  have HU := Lib.hid (up_new (a := a) hh)
  have hl2 : ws.length ≤ 100000 := by omega
  have C := qpush_any W0 w gq ws a h ha hl2
  have hm := fun W => meth_push W gq
  clear h hh ha
  go_enter Try.func63, Try.ntmps63
  go_wp2_with fail
  refine C.mono ?_
  rintro e w1 ⟨⟨u, rfl⟩, q1, k1⟩
  clear C hm
  have hlen : (ws ++ [a]).length = ws.length + 1 := by simp
  obtain ⟨A, cap, hb, -⟩ := q1.at_
  rw [hlen] at hb
  have c0 := hb.cell 0
  simp only [List.getElem?_toArray, List.getElem?_cons_zero] at c0
  have hm := meth_len w1 gq _ c0
  have hw : IntKind.i64.wrap ((ws.length : Int) + 1 - 1) = (ws.length : Int) := by rw [IntKind.wrap_i64]; omega
  have HL := Lib.hid hlen
  clear hlen
  go_wp2_with fail
  refine (qlen_any _ _ _ _).mono ?_
  rintro e w' ⟨rfl, rfl⟩
  clear hm
  have C := up_any W0 w1 gq _ q1 ws.length (by rw [HL.out]; omega) (by rw [HL.out]; omega) HU.out
  go_wp2_with fail
  refine C.mono ?_
  rintro e w2 ⟨⟨u2, rfl⟩, ws', p1, p2, p3, p4⟩
  clear C
  have HE := Lib.hid (And.intro p1 (And.intro p2 (And.intro p3 (k1.tr p4))))
  clear p1 p2 p3 p4 q1 k1 hb c0
  go_wp2
  obtain ⟨e1, e2, e3, e4⟩ := HE.out
  exact bodyPost_end (results_none rfl _ _ _) rfl ⟨⟨_, rfl⟩, ws', e1, e2, e3, e4⟩
end Go.Proofs.Ytbccpplpfcfboaa
