/-
  The queue of lists that wait: Swap, Pop. Conditions: lengths as written.
-/
import Derived.Test.YtbccpplpfcfboaaMQu2
namespace Go.Proofs.Ytbccpplpfcfboaa
open Go.RowKit

theorem bk_uniq {w : World} {g : Nat} {t t' : TypeId} {v v' : Value} (h : Bk w g t #[v]) (h' : Bk w g t' #[v']) : v = v' := by
  unfold Bk at h h'
  rw [h] at h'
  injection h' with h'
  injection h' with h'
  simpa using h'
/-- The slice of a queue with something in it. -/
theorem row_seg {w : World} {base : Nat} {v : Value} {ws : List Wt} (h : w.ownsRow base 97 2 v ws.length (flatW ws)) (hn : ws ≠ []) : ∃ g cap r, v = .slice (some ⟨g, 0, none⟩) ws.length cap ∧ base ≤ g ∧ ws.length ≤ cap ∧ cap ≤ maxLen ∧ SegW w g ws r ∧ cap * 2 = ws.length * 2 + r.length := by
  rcases h.2 with ⟨rfl, h0⟩ | ⟨g, cap, cur, rfl, hb, hg, hnc, hcm, hcs, htake⟩
  · exact absurd (List.eq_nil_of_length_eq_zero h0) hn
  · refine ⟨g, cap, cur.toList.drop (ws.length * 2), rfl, hb, hnc, hcm, ?_, ?_⟩
    · unfold SegW Bk
      rw [← htake, List.take_append_drop]
      simpa using hg
    · simp; omega
theorem seg_row {w : World} {base g cap : Nat} {ws : List Wt} {r : List Value} (h : SegW w g ws r) (hb : base ≤ g) (hc : ws.length ≤ cap) (hr : cap * 2 = ws.length * 2 + r.length) (hm : cap ≤ maxLen) : w.ownsRow base 97 2 (.slice (some ⟨g, 0, none⟩) ws.length cap) ws.length (flatW ws) :=
  ⟨flatW_len ws, .inr ⟨g, cap, _, rfl, hb, h, hc, hm, by simp [flatW_len]; omega, by simp [← flatW_len]⟩⟩

theorem Que.mk2 {W0 W : World} {gq g n cap : Nat} {ws : List Wt} {r : List Value} (hB : Bk W gq 92 #[.slice (some ⟨g, 0, none⟩) n cap]) (hn : n = ws.length) (hF : SegW W g ws r) (hi : ∀ a ∈ ws, Wok W0 a) (hlow : W0.heap.size ≤ gq) (ho : Old W0 W) (hg : W0.heap.size ≤ g) (hm : cap ≤ maxLen ∧ cap * 2 = n * 2 + r.length ∧ n ≤ cap) : Que W0 gq ws W := by
  subst hn
  exact ⟨⟨_, hB, seg_row hF hg hm.2.2 hm.2.1 hm.1⟩, hi, hlow, ho⟩
theorem Que.dr {W0 W : World} {gq : Nat} {ws : List Wt} (h : Que W0 gq ws W) : Que W0 gq ws W.drew := ⟨h.ex, h.its, h.low, h.old.dr⟩

set_option maxHeartbeats 4000000 in
theorem qswap_lt (W0 w : World) (gq : Nat) (v : Value) (ws : List Wt) (h : Que W0 gq ws w) (hv : Bk w gq 92 #[v]) (i j : Nat) (iv jv : Int) (hiv : iv = i) (hjv : jv = j) (hi : i < ws.length) (hj : j < ws.length) (hij : i < j) :
    Calls Try.prog 91 #[v, .int .i64 iv, .int .i64 jv] w fun e w' => (∃ u, e = .returned u) ∧ Que W0 gq (swp ws i j) w' ∧ Kq gq w w' := by
  subst hiv hjv
  obtain ⟨v', hb, hown⟩ := h.ex
  obtain rfl := bk_uniq hv hb
  obtain ⟨g, cap, r, rfl, hg, hnc, hcm, hs, hcr⟩ := row_seg hown (by rintro rfl; simp at hi)
  obtain ⟨a, hia⟩ : ∃ a, ws[i]? = some a := ⟨_, List.getElem?_eq_getElem hi⟩
  obtain ⟨b, hjb⟩ : ∃ b, ws[j]? = some b := ⟨_, List.getElem?_eq_getElem hj⟩
  have hne : g ≠ gq := by
    rintro rfl
    unfold SegW Bk at hs
    rw [show w.heap[g]? = _ from hb] at hs
    injection hs with hs
    injection hs with _ hs
    cases hs
  obtain ⟨A1, c1, ea, -⟩ := Itms.form (h.its a (List.mem_of_getElem? hia))
  obtain ⟨A2, c2, eb, -⟩ := Itms.form (h.its b (List.mem_of_getElem? hjb))
  obtain ⟨av, ax, ar, ai⟩ := a
  obtain ⟨bv, bx, br, bi⟩ := b
  dsimp only at ea eb
  subst ea eb
  have HF : Hid (SegW (putW (putW w g (i * 2) ⟨.slice A2 (br.length + 1) c2, bx, br, bi⟩) g (j * 2) ⟨.slice A1 (ar.length + 1) c1, ax, ar, ai⟩) g (swp ws i j) r) := Lib.hid (by
    rw [swp_set hia hjb]
    exact (hs.put hi _).put (by rw [List.length_set]; exact hj) _)
  have HB : Hid (Bk (putW (putW w g (i * 2) ⟨.slice A2 (br.length + 1) c2, bx, br, bi⟩) g (j * 2) ⟨.slice A1 (ar.length + 1) c1, ax, ar, ai⟩) gq 92 #[.slice (some ⟨g, 0, none⟩) ws.length cap]) := Lib.hid ((((hb.far hne.symm _).far hne.symm _).far hne.symm _).far hne.symm _)
  have HK : Hid (Kq gq w (putW (putW w g (i * 2) ⟨.slice A2 (br.length + 1) c2, bx, br, bi⟩) g (j * 2) ⟨.slice A1 (ar.length + 1) c1, ax, ar, ai⟩).drew) := Lib.hid (by
    have br := rowOf_bk hb
    exact (((((Kq.re gq w).stW br hne _ _).stW br hne _ _).stW br hne _ _).stW br hne _ _).dr)
  have HO : Hid (Old W0 (putW (putW w g (i * 2) ⟨.slice A2 (br.length + 1) c2, bx, br, bi⟩) g (j * 2) ⟨.slice A1 (ar.length + 1) c1, ax, ar, ai⟩)) := Lib.hid ((((h.old.st (p := ⟨g, _, none⟩) hg _).st (p := ⟨g, _, none⟩) hg _).st (p := ⟨g, _, none⟩) hg _).st (p := ⟨g, _, none⟩) hg _)
  have HQ : Hid (Que W0 gq (swp ws i j) (putW (putW w g (i * 2) ⟨.slice A2 (br.length + 1) c2, bx, br, bi⟩) g (j * 2) ⟨.slice A1 (ar.length + 1) c1, ax, ar, ai⟩).drew) := Lib.hid ((Que.mk2 HB.out (swp_len ws i j).symm HF.out (fun c hc => h.its c ((swp_perm ws i j).mem_iff.1 hc)) h.low HO.out hg ⟨hcm, hcr, hnc⟩).dr)
  clear HF HB HO
  obtain ⟨a0, a1⟩ := hs.at_ hia
  obtain ⟨b0, b1⟩ := hs.at_ hjb
  have fr : ∀ q, w.frozen? ⟨g, q, none⟩ = false := fun q => Bk.fr hs q
  clear h hv hb hown hs hcm hcr hia hjb
  go_enter Try.func91, Try.ntmps91
  go_upto_region 0 with (fail)
  go_region
  all_goals
    have hQ := HQ.out
    have hK := HK.out
    unfold putW at hQ hK
    exact bodyPost_end (results_none rfl _ _ _) rfl ⟨⟨_, rfl⟩, hQ, hK⟩
set_option maxHeartbeats 4000000 in
theorem qswap_gt (W0 w : World) (gq : Nat) (v : Value) (ws : List Wt) (h : Que W0 gq ws w) (hv : Bk w gq 92 #[v]) (i j : Nat) (iv jv : Int) (hiv : iv = i) (hjv : jv = j) (hi : i < ws.length) (hj : j < ws.length) (hij : j < i) :
    Calls Try.prog 91 #[v, .int .i64 iv, .int .i64 jv] w fun e w' => (∃ u, e = .returned u) ∧ Que W0 gq (swp ws i j) w' ∧ Kq gq w w' := by
  subst hiv hjv
  obtain ⟨v', hb, hown⟩ := h.ex
  obtain rfl := bk_uniq hv hb
  obtain ⟨g, cap, r, rfl, hg, hnc, hcm, hs, hcr⟩ := row_seg hown (by rintro rfl; simp at hi)
  obtain ⟨a, hia⟩ : ∃ a, ws[i]? = some a := ⟨_, List.getElem?_eq_getElem hi⟩
  obtain ⟨b, hjb⟩ : ∃ b, ws[j]? = some b := ⟨_, List.getElem?_eq_getElem hj⟩
  have hne : g ≠ gq := by
    rintro rfl
    unfold SegW Bk at hs
    rw [show w.heap[g]? = _ from hb] at hs
    injection hs with hs
    injection hs with _ hs
    cases hs
  obtain ⟨A1, c1, ea, -⟩ := Itms.form (h.its a (List.mem_of_getElem? hia))
  obtain ⟨A2, c2, eb, -⟩ := Itms.form (h.its b (List.mem_of_getElem? hjb))
  obtain ⟨av, ax, ar, ai⟩ := a
  obtain ⟨bv, bx, br, bi⟩ := b
  dsimp only at ea eb
  subst ea eb
  have HF : Hid (SegW (putW (putW w g (i * 2) ⟨.slice A2 (br.length + 1) c2, bx, br, bi⟩) g (j * 2) ⟨.slice A1 (ar.length + 1) c1, ax, ar, ai⟩) g (swp ws i j) r) := Lib.hid (by
    rw [swp_set hia hjb]
    exact (hs.put hi _).put (by rw [List.length_set]; exact hj) _)
  have HB : Hid (Bk (putW (putW w g (i * 2) ⟨.slice A2 (br.length + 1) c2, bx, br, bi⟩) g (j * 2) ⟨.slice A1 (ar.length + 1) c1, ax, ar, ai⟩) gq 92 #[.slice (some ⟨g, 0, none⟩) ws.length cap]) := Lib.hid ((((hb.far hne.symm _).far hne.symm _).far hne.symm _).far hne.symm _)
  have HK : Hid (Kq gq w (putW (putW w g (i * 2) ⟨.slice A2 (br.length + 1) c2, bx, br, bi⟩) g (j * 2) ⟨.slice A1 (ar.length + 1) c1, ax, ar, ai⟩).drew) := Lib.hid (by
    have br := rowOf_bk hb
    exact (((((Kq.re gq w).stW br hne _ _).stW br hne _ _).stW br hne _ _).stW br hne _ _).dr)
  have HO : Hid (Old W0 (putW (putW w g (i * 2) ⟨.slice A2 (br.length + 1) c2, bx, br, bi⟩) g (j * 2) ⟨.slice A1 (ar.length + 1) c1, ax, ar, ai⟩)) := Lib.hid ((((h.old.st (p := ⟨g, _, none⟩) hg _).st (p := ⟨g, _, none⟩) hg _).st (p := ⟨g, _, none⟩) hg _).st (p := ⟨g, _, none⟩) hg _)
  have HQ : Hid (Que W0 gq (swp ws i j) (putW (putW w g (i * 2) ⟨.slice A2 (br.length + 1) c2, bx, br, bi⟩) g (j * 2) ⟨.slice A1 (ar.length + 1) c1, ax, ar, ai⟩).drew) := Lib.hid ((Que.mk2 HB.out (swp_len ws i j).symm HF.out (fun c hc => h.its c ((swp_perm ws i j).mem_iff.1 hc)) h.low HO.out hg ⟨hcm, hcr, hnc⟩).dr)
  clear HF HB HO
  obtain ⟨a0, a1⟩ := hs.at_ hia
  obtain ⟨b0, b1⟩ := hs.at_ hjb
  have fr : ∀ q, w.frozen? ⟨g, q, none⟩ = false := fun q => Bk.fr hs q
  clear h hv hb hown hs hcm hcr hia hjb
  go_enter Try.func91, Try.ntmps91
  go_upto_region 0 with (fail)
  go_region
  all_goals
    have hQ := HQ.out
    have hK := HK.out
    unfold putW at hQ hK
    exact bodyPost_end (results_none rfl _ _ _) rfl ⟨⟨_, rfl⟩, hQ, hK⟩
set_option maxHeartbeats 4000000 in
theorem qswap_eq (W0 w : World) (gq : Nat) (v : Value) (ws : List Wt) (h : Que W0 gq ws w) (hv : Bk w gq 92 #[v]) (i : Nat) (hi : i < ws.length) :
    Calls Try.prog 91 #[v, .int .i64 (i : Int), .int .i64 (i : Int)] w fun e w' => (∃ u, e = .returned u) ∧ Que W0 gq (swp ws i i) w' ∧ Kq gq w w' := by
  obtain ⟨v', hb, hown⟩ := h.ex
  obtain rfl := bk_uniq hv hb
  obtain ⟨g, cap, r, rfl, hg, hnc, hcm, hs, hcr⟩ := row_seg hown (by rintro rfl; simp at hi)
  obtain ⟨a, hia⟩ : ∃ a, ws[i]? = some a := ⟨_, List.getElem?_eq_getElem hi⟩
  have hjb := hia
  have hne : g ≠ gq := by
    rintro rfl
    unfold SegW Bk at hs
    rw [show w.heap[g]? = _ from hb] at hs
    injection hs with hs
    injection hs with _ hs
    cases hs
  obtain ⟨A1, c1, ea, -⟩ := Itms.form (h.its a (List.mem_of_getElem? hia))
  obtain ⟨av, ax, ar, ai⟩ := a
  dsimp only at ea
  subst ea
  have HF : Hid (SegW (putW (putW w g (i * 2) ⟨.slice A1 (ar.length + 1) c1, ax, ar, ai⟩) g (i * 2) ⟨.slice A1 (ar.length + 1) c1, ax, ar, ai⟩) g (swp ws i i) r) := Lib.hid (by
    rw [swp_set hia hjb]
    exact (hs.put hi _).put (by rw [List.length_set]; exact hi) _)
  have HB : Hid (Bk (putW (putW w g (i * 2) ⟨.slice A1 (ar.length + 1) c1, ax, ar, ai⟩) g (i * 2) ⟨.slice A1 (ar.length + 1) c1, ax, ar, ai⟩) gq 92 #[.slice (some ⟨g, 0, none⟩) ws.length cap]) := Lib.hid ((((hb.far hne.symm _).far hne.symm _).far hne.symm _).far hne.symm _)
  have HK : Hid (Kq gq w (putW (putW w g (i * 2) ⟨.slice A1 (ar.length + 1) c1, ax, ar, ai⟩) g (i * 2) ⟨.slice A1 (ar.length + 1) c1, ax, ar, ai⟩).drew) := Lib.hid (by
    have br := rowOf_bk hb
    exact (((((Kq.re gq w).stW br hne _ _).stW br hne _ _).stW br hne _ _).stW br hne _ _).dr)
  have HO : Hid (Old W0 (putW (putW w g (i * 2) ⟨.slice A1 (ar.length + 1) c1, ax, ar, ai⟩) g (i * 2) ⟨.slice A1 (ar.length + 1) c1, ax, ar, ai⟩)) := Lib.hid ((((h.old.st (p := ⟨g, _, none⟩) hg _).st (p := ⟨g, _, none⟩) hg _).st (p := ⟨g, _, none⟩) hg _).st (p := ⟨g, _, none⟩) hg _)
  have HQ : Hid (Que W0 gq (swp ws i i) (putW (putW w g (i * 2) ⟨.slice A1 (ar.length + 1) c1, ax, ar, ai⟩) g (i * 2) ⟨.slice A1 (ar.length + 1) c1, ax, ar, ai⟩).drew) := Lib.hid ((Que.mk2 HB.out (swp_len ws i i).symm HF.out (fun c hc => h.its c ((swp_perm ws i i).mem_iff.1 hc)) h.low HO.out hg ⟨hcm, hcr, hnc⟩).dr)
  clear HF HB HO
  obtain ⟨a0, a1⟩ := hs.at_ hia
  have fr : ∀ q, w.frozen? ⟨g, q, none⟩ = false := fun q => Bk.fr hs q
  clear h hv hb hown hs hcm hcr hia hjb
  go_enter Try.func91, Try.ntmps91
  go_upto_region 0 with (fail)
  go_region
  all_goals
    have hQ := HQ.out
    have hK := HK.out
    unfold putW at hQ hK
    exact bodyPost_end (results_none rfl _ _ _) rfl ⟨⟨_, rfl⟩, hQ, hK⟩
theorem qswap_any (W0 w : World) (gq : Nat) (v : Value) (ws : List Wt) (h : Que W0 gq ws w) (hv : Bk w gq 92 #[v]) (i j : Nat) (iv jv : Int) (hiv : iv = i) (hjv : jv = j) (hi : i < ws.length) (hj : j < ws.length) :
    Calls Try.prog 91 #[v, .int .i64 iv, .int .i64 jv] w fun e w' => (∃ u, e = .returned u) ∧ Que W0 gq (swp ws i j) w' ∧ Kq gq w w' := by
  by_cases e : i = j
  · subst hiv hjv e
    exact qswap_eq W0 w gq v ws h hv i hi
  · rcases Nat.lt_or_gt_of_ne e with e | e
    · exact qswap_lt W0 w gq v ws h hv i j iv jv hiv hjv hi hj e
    · exact qswap_gt W0 w gq v ws h hv i j iv jv hiv hjv hi hj e
end Go.Proofs.Ytbccpplpfcfboaa
