/-
  Make of the reference; Make where the memory is too small. Conditions: lengths as written.
-/
import Derived.Test.YtbccpplpfcfboaaRRef
import Derived.Test.YtbccpplpfcfboaaRMak
namespace Go.Proofs.Ytbccpplpfcfboaa
open Go.RowKit

theorem make_any (w : World) (v : Value) (l : List Cel) (h : Cels w v l) (hl : l.length ≤ 40000) (m : Nat) (hm : 1 ≤ m) (hm2 : m ≤ 9223372036854775807) :
    Calls Try.prog 25 #[v, .int .i64 (m : Int)] w fun e W' => ∃ u, e = .returned (.tuple #[u, .int .i64 0]) ∧ Made W' u (itemsOf l) m ∧ Old w W' :=
  (callsIn_wide (n := 3)).1 (make_in 3 (by omega) w v l h hl m hm hm2)

theorem Try.infoSlR : (Try.prog.info? 40).map (fun i => (i.zero, i.size, i.bytes)) = some (some (.slice none 0 0), 1, 24) := by kernel_rfl
theorem RitR.grown {w w' : World} {base n : Nat} {v u : Value} {vs : List Value} {l : List Itm} (h : RitR w u l) (ho : w.ownsRow base 40 1 v n vs) (hg : w.grownBy w' v.ownBlock) : RitR w' u l := by
  obtain ⟨b, cap, r, h1, h2, h3⟩ := h
  refine ⟨b, cap, r, h1, h2, Bk.grown h3 hg ?_⟩
  intro e
  rcases ho.2 with ⟨rfl, _⟩ | ⟨g', cap', cur, rfl, hbg, hgc, _⟩
  · cases e
  · have : b = g' := by simpa [Value.ownBlock] using e
    subst this
    rw [show w.heap[b]? = _ from h3] at hgc
    injection hgc with hgc
    injection hgc with _ hgc
    cases hgc
theorem row_old {w w' : World} {base : Nat} {e : TypeId} {k n : Nat} {v : Value} {vs : List Value} (h : w.ownsRow base e k v n vs) (o : Old w w') : w'.ownsRow base e k v n vs := by
  refine ⟨h.1, ?_⟩
  rcases h.2 with h1 | ⟨gg, cap, cur, hv, hb, hg, rest⟩
  · exact .inl h1
  · exact .inr ⟨gg, cap, cur, hv, hb, (o.block _ (Array.getElem?_eq_some_iff.1 hg).1).trans hg, rest⟩
/-- append of one slice of items to a row of such, as a step of a region. -/
theorem wp_row {ops : Array Oper} {rest : List Oper} {op : Oper} {a : Act} {Q : Exit → Act → World → Prop} {W0 w : World} (hgd : op.guard = none) (s x : Operand)
    (ho : op.op = .call { callee := .builtin .append, args := #[s, x], argTypes := #[33, 33] })
    (hW : Old W0 w) (v : Value) (vs : List Value) (n : Nat) (hs : a.eval s = v) (hown : w.ownsRow W0.heap.size 40 1 v n vs) (u : Value) (hu : u.oneCell' = true) (g c : Nat) (hx : a.eval x = .slice (some ⟨g, 0, none⟩) 1 c) (hg : Bk w g 40 #[u]) (hlen : n ≤ 100000)
    (h : ∀ v' w', w'.ownsRow W0.heap.size 40 1 v' (n + 1) (vs ++ [u]) → Old W0 w' → w.grownBy w' v.ownBlock → wpList Try.prog ops Q rest (a.put op.dst v') w') : wpList Try.prog ops Q (op :: rest) a w := by
  obtain ⟨v', w', hr, h2, h3⟩ := run_one 33 40 (.slice none 0 0) 24 (by omega) Try.underlying33 rfl Try.infoSlR hW.size hown u hu g c hg hlen op.type
  refine wpList_plain hgd fun K hK => ?_
  unfold Oper.wp execOp
  simp only [ho, resolve, invoke, builtin, Sem.run_bind, Sem.run_pure, Result.andThen_ok, List.map_toArray, List.map_cons, List.map_nil, hs, hx, hr]
  exact hK _ _ (h v' w' h2 (hW.trans ((Below.refl _ _).grown h3 hW.size (fun k hk => (World.ownsRow.lt hown k hk).1))) h3)
/-- What the reference's Make has made. -/
def MadeR (w : World) (v : Value) (l : List Itm) (m : Nat) : Prop := ∃ base vs, w.ownsRow base 40 1 v (many l.length m) vs ∧ vs.length = many l.length m ∧ ∀ i u, vs[i]? = some u → ∃ out, IsRes (part l m i) out ∧ out.length ≤ (part l m i).length ∧ RitR w u out
theorem MadeR.old {w w' : World} {v : Value} {l : List Itm} {m : Nat} (h : MadeR w v l m) (o : Old w w') : MadeR w' v l m := by
  obtain ⟨base, vs, h1, h2, h3⟩ := h
  refine ⟨base, vs, row_old h1 o, h2, fun i u hu => ?_⟩
  obtain ⟨out, p1, p2, p3⟩ := h3 i u hu
  exact ⟨out, p1, p2, p3.old o⟩
theorem Made.old {w w' : World} {v : Value} {l : List Itm} {m : Nat} (h : Made w v l m) (o : Old w w') : Made w' v l m := by
  obtain ⟨base, vs, h1, h2, h3⟩ := h
  refine ⟨base, vs, row_old h1 o, h2, fun i u hu => ?_⟩
  obtain ⟨out, p1, p2, p3⟩ := h3 i u hu
  exact ⟨out, p1, p2, p3.old o⟩

set_option maxRecDepth 100000 in
set_option maxHeartbeats 4000000 in
theorem rmake_any (w : World) (v : Value) (l : List Cel) (h : Cels w v l) (hl : l.length ≤ 30000) (m : Nat) (hm : 1 ≤ m) (hm2 : m ≤ 9223372036854775807) :
    Calls Try.prog 26 #[v, .int .i64 (m : Int)] w fun e W' => ∃ u, e = .returned (.tuple #[u, .int .i64 0]) ∧ MadeR W' u (itemsOf l) m ∧ Old w W' := by
  obtain ⟨A, cap, rfl, hc⟩ := h.form
  have HI := Lib.hid h
  clear h
  go_enter Try.func26, Try.ntmps26
  go_wp2_with fail
  refine (ritems_any _ _ l (HI.out.old (old_alloc _ _)) (by omega)).mono ?_
  rintro e w1 ⟨u1, rfl, o1, ow1⟩
  have hb1 := (new_bk w 40 #[]).old o1
  have o1' := (old_alloc w (.cells #[] 40)).tr o1
  have hrow : w1.ownsRow w.heap.size 40 1 (.slice (some ⟨w.heap.size, 0, none⟩) 0 0) 0 [] := ⟨rfl, .inr ⟨w.heap.size, 0, #[], rfl, Nat.le_refl _, hb1, Nat.le_refl _, by simp, rfl, rfl⟩⟩
  obtain ⟨A1, N1, cap1, g0, rfl, hN1, hA1, hcap1, hit⟩ : ∃ A1 N1 cap1 g0, u1 = .slice A1 N1 cap1 ∧ N1 = (itemsOf l).length ∧ (0 < N1 → A1 = some ⟨g0, 0, none⟩) ∧ N1 ≤ cap1 ∧ (0 < N1 → RitR w1 (.slice (some ⟨g0, 0, none⟩) N1 cap1) (itemsOf l)) := by
    rcases ow1.2 with ⟨rfl, h0⟩ | ⟨g, cap, cur, hv, _, hgc, hnc, _, _, htake⟩
    · exact ⟨none, 0, 0, 0, rfl, h0.symm, fun h => absurd h (by omega), Nat.le_refl _, fun h => absurd h (by omega)⟩
    · refine ⟨_, _, cap, g, hv, rfl, fun _ => rfl, hnc, fun _ => ⟨g, cap, cur.toList.drop ((itemsOf l).length * 7), rfl, hnc, ?_⟩⟩
      unfold Bk
      rw [← htake, List.take_append_drop]
      simpa using hgc
  have hN2 : N1 ≤ 30000 := by rw [hN1, itemsOf_len]; exact hl
  have HN := Lib.hid hN1
  have HIt := Lib.hid hit
  clear ow1 o1 hit hN1 hb1
  go_wp2_with fail
  go_loopw [6, 7] (fun ov rv wr => ∃ (k s : Nat) (A' : Option Addr) (c' : Nat) (vs : List Value), rv = .slice A' (N1 - s) c' ∧ s ≤ N1 ∧ k ≤ s ∧ Old w wr ∧ Hid (0 < N1 → RitR wr (.slice (some ⟨g0, 0, none⟩) N1 cap1) (itemsOf l)) ∧ Hid (k ≤ many N1 m ∧ (s < N1 → s = k * m ∧ A' = some ⟨g0, s * 7, none⟩ ∧ c' = cap1 - s) ∧ (s = N1 → k = many N1 m)) ∧ Hid (wr.ownsRow w.heap.size 40 1 ov k vs ∧ vs.length = k ∧ ∀ i u, vs[i]? = some u → ∃ out, IsRes (part (itemsOf l) m i) out ∧ out.length ≤ (part (itemsOf l) m i).length ∧ RitR wr u out))
    (fun _ rv _ => match rv with | .slice _ q _ => q | _ => 0)
  case atStart =>
    refine ⟨0, 0, A1, cap1, [], rfl, Nat.zero_le _, Nat.zero_le _, o1', HIt, Lib.hid ⟨Nat.zero_le _, fun h => ⟨by simp, by rw [hA1 h], by simp⟩, fun h => ?_⟩, Lib.hid ⟨hrow, rfl, fun i u hu => by simp at hu⟩⟩
    rw [← h, many_nil hm]
  case round =>
    clear hrow o1' HIt
    obtain ⟨k, s, A', c', vs, rfl, hs, hks, o1, HO1, HK, HV⟩ := hrel
    by_cases h1 : s < N1
    · obtain ⟨hkm, hlt, hend⟩ := HK.out
      obtain ⟨hs2, rfl, rfl⟩ := hlt h1
      have HE := Lib.hid (show ∀ q, min m (N1 - s) = q → k + 1 ≤ many N1 m ∧ (s + q < N1 → s + q = (k + 1) * m) ∧ (s + q = N1 → k + 1 = many N1 m) from fun q hq => by
        have h2 : k < many N1 m := (many_lt hm).2 (by omega)
        refine ⟨h2, fun h => ?_, fun h => ?_⟩
        · rw [Nat.add_mul, ← hs2]; omega
        · have h3 : ¬ k + 1 < many N1 m := fun h4 => by
            have h5 := (many_lt hm).1 h4
            rw [Nat.add_mul, ← hs2] at h5
            omega
          omega)
      have HPL := Lib.hid (show (part (itemsOf l) m k).length ≤ 30000 by rw [part_len, ← HN.out]; omega)
      have HIP := Lib.hid (show ∀ q, min m (N1 - s) = q → Itms wr (.slice (some ⟨g0, s * 7, none⟩) q (cap1 - s)) (part (itemsOf l) m k) from fun q hq => by
        have hpl := part_len (itemsOf l) m k
        rw [← HN.out, ← hs2, hq] at hpl
        refine .inr ⟨⟨g0, s * 7, none⟩, cap1 - s, by rw [hpl], by omega, fun _ => ⟨g0, s * 7, rfl, ?_⟩⟩
        obtain ⟨gx, cx, rx, ex, -, hx⟩ := HO1.out (by omega)
        injection ex with e1 e2 e3
        injection e1 with e1
        injection e1 with e4 e5
        subst e4
        have := ((bk_its hx).drop_ (k * m)).take_ m
        rw [Nat.zero_add, ← hs2] at this
        rw [part, ← hs2]
        exact this)
      clear hs2 hlt hend hkm HK
      have i1 : (0 : Int) < ((N1 - s : Nat) : Int) := by omega
      go_wp2_with fail
      · have hq : min m (N1 - s) = N1 - s := by omega
        have HE := HE.out (N1 - s) hq
        have hi := HIP.out (N1 - s) hq
        refine (rresolve_any wr _ (part (itemsOf l) m k) hi (by have := HPL.out; omega)).mono ?_
        rintro e w2 ⟨u2, out, rfl, r1, r2, o2, hu⟩
        have hu2 := hu
        obtain ⟨gu, cu, ru, rfl, hcu, -⟩ := hu2
        have oa : Old w (w2.alloc (.cells #[.slice (some ⟨gu, 0, none⟩) out.length cu] 40)) := (o1.tr o2).al _
        have ob : Old wr (w2.alloc (.cells #[.slice (some ⟨gu, 0, none⟩) out.length cu] 40)) := o2.al _
        have hrw := row_old HV.out.1 ob
        have HU := Lib.hid (And.intro r1 (And.intro r2 (And.intro hu (And.intro ob hrw))))
        clear hu r1 r2 hi ob
        go_wp2_with (at_builtin; refine wp_row rfl (.tmp 21) (.tmp 26) rfl (W0 := w) oa _ vs k rfl hrw _ rfl _ 1 rfl (new_bk _ _ _) (by omega) ?_; intro v8 w8 n8 o8 g8; refine Hid.out ?_)
        have HG := Lib.hid (show (0 < N1 → RitR w8 (.slice (some ⟨g0, 0, none⟩) N1 cap1) (itemsOf l)) ∧ w8.ownsRow w.heap.size 40 1 v8 (k + 1) (vs ++ [Value.slice (some ⟨gu, 0, none⟩) out.length cu]) ∧ (vs ++ [Value.slice (some ⟨gu, 0, none⟩) out.length cu]).length = k + 1 ∧ ∀ i u, (vs ++ [Value.slice (some ⟨gu, 0, none⟩) out.length cu])[i]? = some u → ∃ out, IsRes (part (itemsOf l) m i) out ∧ out.length ≤ (part (itemsOf l) m i).length ∧ RitR w8 u out by
          obtain ⟨r1, r2, hu, ob, hrw⟩ := HU.out
          obtain ⟨h1, h2, h3⟩ := HV.out
          refine ⟨fun h => ((HO1.out h).old ob).grown hrw g8, n8, by simp [h2], fun i x hx => ?_⟩
          rcases Nat.lt_or_ge i vs.length with hi | hi
          · rw [List.getElem?_append_left hi] at hx
            obtain ⟨o, p1, p2, p3⟩ := h3 i x hx
            exact ⟨o, p1, p2, (p3.old ob).grown hrw g8⟩
          · rw [List.getElem?_append_right hi] at hx
            obtain ⟨rfl, rfl⟩ : i = vs.length ∧ x = .slice (some ⟨gu, 0, none⟩) out.length cu := by
              rcases Nat.lt_or_ge 0 (i - vs.length) with q | q
              · rw [List.getElem?_eq_none (by simp; omega)] at hx; cases hx
              · rw [show i - vs.length = 0 by omega] at hx
                simp at hx
                exact ⟨by omega, hx.symm⟩
            rw [h2]
            exact ⟨out, r1, r2, (hu.old (old_alloc _ _)).grown hrw g8⟩)
        clear HU HV g8 n8 hrw oa o1 o2
        refine Lib.hid ?_
        go_wp2
        all_goals
          go_round
          case rel =>
            refine ⟨k + 1, s + (N1 - s), _, _, _, by congr 1; omega, by omega, by omega, o8, Lib.hid HG.out.1, Lib.hid ⟨HE.1, fun h => ?_, HE.2.2⟩, Lib.hid HG.out.2⟩
            refine ⟨HE.2.1 h, ?_, by omega⟩
            first
              | (exfalso; omega)
              | (rw [if_neg (by omega)]; congr 2; omega)
              | (congr 2; omega)
          case measure => dsimp only; omega
      · have hq : min m (N1 - s) = m := by omega
        have HE := HE.out (m) hq
        have hi := HIP.out (m) hq
        refine (rresolve_any wr _ (part (itemsOf l) m k) hi (by have := HPL.out; omega)).mono ?_
        rintro e w2 ⟨u2, out, rfl, r1, r2, o2, hu⟩
        have hu2 := hu
        obtain ⟨gu, cu, ru, rfl, hcu, -⟩ := hu2
        have oa : Old w (w2.alloc (.cells #[.slice (some ⟨gu, 0, none⟩) out.length cu] 40)) := (o1.tr o2).al _
        have ob : Old wr (w2.alloc (.cells #[.slice (some ⟨gu, 0, none⟩) out.length cu] 40)) := o2.al _
        have hrw := row_old HV.out.1 ob
        have HU := Lib.hid (And.intro r1 (And.intro r2 (And.intro hu (And.intro ob hrw))))
        clear hu r1 r2 hi ob
        go_wp2_with (at_builtin; refine wp_row rfl (.tmp 21) (.tmp 26) rfl (W0 := w) oa _ vs k rfl hrw _ rfl _ 1 rfl (new_bk _ _ _) (by omega) ?_; intro v8 w8 n8 o8 g8; refine Hid.out ?_)
        have HG := Lib.hid (show (0 < N1 → RitR w8 (.slice (some ⟨g0, 0, none⟩) N1 cap1) (itemsOf l)) ∧ w8.ownsRow w.heap.size 40 1 v8 (k + 1) (vs ++ [Value.slice (some ⟨gu, 0, none⟩) out.length cu]) ∧ (vs ++ [Value.slice (some ⟨gu, 0, none⟩) out.length cu]).length = k + 1 ∧ ∀ i u, (vs ++ [Value.slice (some ⟨gu, 0, none⟩) out.length cu])[i]? = some u → ∃ out, IsRes (part (itemsOf l) m i) out ∧ out.length ≤ (part (itemsOf l) m i).length ∧ RitR w8 u out by
          obtain ⟨r1, r2, hu, ob, hrw⟩ := HU.out
          obtain ⟨h1, h2, h3⟩ := HV.out
          refine ⟨fun h => ((HO1.out h).old ob).grown hrw g8, n8, by simp [h2], fun i x hx => ?_⟩
          rcases Nat.lt_or_ge i vs.length with hi | hi
          · rw [List.getElem?_append_left hi] at hx
            obtain ⟨o, p1, p2, p3⟩ := h3 i x hx
            exact ⟨o, p1, p2, (p3.old ob).grown hrw g8⟩
          · rw [List.getElem?_append_right hi] at hx
            obtain ⟨rfl, rfl⟩ : i = vs.length ∧ x = .slice (some ⟨gu, 0, none⟩) out.length cu := by
              rcases Nat.lt_or_ge 0 (i - vs.length) with q | q
              · rw [List.getElem?_eq_none (by simp; omega)] at hx; cases hx
              · rw [show i - vs.length = 0 by omega] at hx
                simp at hx
                exact ⟨by omega, hx.symm⟩
            rw [h2]
            exact ⟨out, r1, r2, (hu.old (old_alloc _ _)).grown hrw g8⟩)
        clear HU HV g8 n8 hrw oa o1 o2
        refine Lib.hid ?_
        go_wp2
        all_goals
          go_round
          case rel =>
            refine ⟨k + 1, s + (m), _, _, _, by congr 1; omega, by omega, by omega, o8, Lib.hid HG.out.1, Lib.hid ⟨HE.1, fun h => ?_, HE.2.2⟩, Lib.hid HG.out.2⟩
            refine ⟨HE.2.1 h, ?_, by omega⟩
            first
              | (exfalso; omega)
              | (rw [if_neg (by omega)]; congr 2; omega)
              | (congr 2; omega)
          case measure => dsimp only; omega
    · have HF := Lib.hid (HK.out.2.2 (by omega))
      have i1 : ((N1 - s : Nat) : Int) = 0 := by omega
      have i2 : N1 - s = 0 := by omega
      clear HK
      go_wp2
      obtain ⟨h2, h3, h4⟩ := HV.out
      rw [HF.out, HN.out] at h2 h3
      exact bodyPost_ret (results_tmp2 rfl _ _ _) rfl ⟨_, rfl, ⟨_, vs, h2, h3, h4⟩, o1⟩
end Go.Proofs.Ytbccpplpfcfboaa
