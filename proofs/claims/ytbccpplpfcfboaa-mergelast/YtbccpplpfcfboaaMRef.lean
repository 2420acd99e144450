/-
  The reference's sorted, Group, Pass, All. Conditions: lengths as written.
-/
import Derived.Test.YtbccpplpfcfboaaMAll
namespace Go.Proofs.Ytbccpplpfcfboaa
open Go.RowKit

theorem sl_lists (b off len cap k : Nat) (h : k ≤ len) (w : World) : (Instr.slice 33 (.slice (some ⟨b, off, none⟩) len cap) (some (.int .i64 (k : Int))) none none).run Try.prog w = .ok (.slice (if cap = k then some ⟨b, off, none⟩ else some ⟨b, off + k, none⟩) (len - k) (cap - k)) w := by
  go_simp
theorem sl_listp (b off len cap k : Nat) (h : k ≤ cap) (w : World) : (Instr.slice 33 (.slice (some ⟨b, off, none⟩) len cap) none (some (.int .i64 (k : Int))) none).run Try.prog w = .ok (.slice (some ⟨b, off, none⟩) k cap) w := by
  go_simp
theorem Lsts.take_ {w : World} {b off n cap k : Nat} {Ls : List (List Itm)} (h : Lsts w (.slice (some ⟨b, off, none⟩) n cap) Ls) (hk : k ≤ n) : Lsts w (.slice (some ⟨b, off, none⟩) k cap) (Ls.take k) := by
  rcases h with ⟨h1, -⟩ | ⟨A', cap', h1, h2, h3⟩
  · cases h1
  · injection h1 with e1 e2 e3
    injection e1 with e1
    subst e1 e3
    refine .inr ⟨_, _, by rw [List.length_take]; congr 1; omega, by rw [List.length_take]; omega, fun hl => ?_⟩
    obtain ⟨b', off', e, k'⟩ := h3 (by rintro rfl; simp at hl)
    refine ⟨b', off', e, fun i L hL => k' i L ?_⟩
    rw [List.getElem?_take] at hL
    split at hL
    · exact hL
    · cases hL
theorem Lsts.drop_ {w : World} {b off n cap k : Nat} {Ls : List (List Itm)} (h : Lsts w (.slice (some ⟨b, off, none⟩) n cap) Ls) (hk : k ≤ n) : Lsts w (.slice (if cap = k then some ⟨b, off, none⟩ else some ⟨b, off + k, none⟩) (n - k) (cap - k)) (Ls.drop k) := by
  rcases h with ⟨h1, -⟩ | ⟨A', cap', h1, h2, h3⟩
  · cases h1
  · injection h1 with e1 e2 e3
    injection e1 with e1
    subst e1 e3
    by_cases hc : cap = k
    · rw [if_pos hc]
      have : Ls.drop k = [] := List.drop_eq_nil_of_le (by omega)
      rw [this]
      exact .inr ⟨_, _, by congr 1; simp; omega, by simp, fun h => absurd rfl h⟩
    · rw [if_neg hc]
      refine .inr ⟨_, _, by rw [List.length_drop]; congr 1; omega, by rw [List.length_drop]; omega, fun hl => ?_⟩
      obtain ⟨b', off', e, k'⟩ := h3 (by rintro rfl; simp at hl)
      injection e with e1 e2
      subst e1 e2
      refine ⟨_, _, rfl, fun i L hL => ?_⟩
      rw [List.getElem?_drop] at hL
      obtain ⟨u, q1, q2⟩ := k' (k + i) L hL
      exact ⟨u, by rw [Nat.add_assoc]; exact q1, q2⟩

set_option maxHeartbeats 4000000 in
theorem rsortedL_any (w : World) (v : Value) (Ls : List (List Itm)) (h : Lsts w v Ls) (hl : Ls.length ≤ 50000) (ht : ∀ L ∈ Ls, L.length ≤ 100000) :
    Calls Try.prog 31 #[v] w fun e w' => e = .returned (.bool (allB Ls)) ∧ Old w w' := by
  obtain ⟨A, cap, rfl, hc⟩ := h.form
  have HI := Lib.hid h
  have HT := Lib.hid ht
  clear h ht
  go_enter Try.func31, Try.ntmps31
  go_wp2_with fail
  go_loopw [3] (fun iv wr => ∃ k : Nat, iv = .int .i64 k ∧ k ≤ Ls.length ∧ Old w wr ∧ Hid (allB (Ls.take k) = true)) (fun iv _ => Ls.length - (intOf iv).toNat)
  case atStart => exact ⟨0, rfl, Nat.zero_le _, Old.re _, Lib.hid rfl⟩
  case round =>
    obtain ⟨k, rfl, hk, o1, HA⟩ := hrel
    by_cases hlt : k < Ls.length
    · obtain ⟨L, HX⟩ : ∃ L, Hid (Ls[k]? = some L) := ⟨Ls[k], Lib.hid (List.getElem?_eq_getElem hlt)⟩
      obtain ⟨b, off, u, rfl, hu, hit⟩ := (HI.out.old o1).at_ HX.out
      have C := rsorted_any wr u L hit (HT.out L (List.mem_of_getElem? HX.out))
      clear hit
      go_wp2_with fail
      refine C.mono ?_
      clear C hu
      rintro e w1 ⟨rfl, o2⟩
      have o3 := o1.tr o2
      clear o1 o2
      cases hs : sortedB L with
      | true =>
        have HA2 : Hid (allB (Ls.take (k + 1)) = true) := Lib.hid (by
          rw [← take_at HX.out]
          have := HA.out
          unfold allB at this ⊢
          rw [List.all_append, this]
          simp [hs])
        clear hs HA HX
        go_wp2
        go_round
        case rel => exact ⟨k + 1, by go_num, by omega, o3, HA2⟩
        case measure => simp [intOf]; omega
      | false =>
        have HF := Lib.hid (allB_no HX.out hs)
        clear hs HA HX
        go_wp2
        go_ret
        exact ⟨ret_bool HF.out.symm, o3⟩
    · obtain rfl : k = Ls.length := by omega
      have HF := Lib.hid HA.out
      go_wp2
      go_ret
      have := HF.out
      rw [List.take_length] at this
      exact ⟨ret_bool this.symm, o1⟩

set_option maxHeartbeats 4000000 in
theorem rgroup_any (w : World) (v : Value) (Ls : List (List Itm)) (h : Lsts w v Ls) (hl : Ls.length ≤ 50000) (ht : Ls.flatten.length ≤ 39000) :
    Calls Try.prog 22 #[v] w fun e w' => ∃ u out, e = .returned u ∧ GroupR Ls out ∧ out.length ≤ Ls.flatten.length ∧ Old w w' ∧ Itms w' u out ∧ (allB Ls = true → RitR w' u out) := by
  have C := rsortedL_any w v Ls h hl (fun L hL => by have := len_flat hL; omega)
  obtain ⟨A, cap, rfl, hc⟩ := h.form
  have HI := Lib.hid h
  have HF : Hid (∀ k L, Ls[k]? = some L → (Ls.take k).flatten.length + L.length ≤ 39000) := Lib.hid fun k L hL => by
    have e1 : (Ls.take (k + 1)).flatten.length = (Ls.take k).flatten.length + L.length := by
      rw [← take_at hL, List.flatten_append, List.length_append]
      simp
    have h1 : Ls = Ls.take (k + 1) ++ Ls.drop (k + 1) := (List.take_append_drop _ _).symm
    have h2 := congrArg (fun l => l.flatten.length) h1
    simp only [List.flatten_append, List.length_append] at h2
    omega
  clear h
  go_enter Try.func22, Try.ntmps22
  go_wp2_with fail
  refine C.mono ?_
  clear C
  rintro e w1 ⟨rfl, o1⟩
  cases hs : allB Ls with
  | false =>
    have HS := Lib.hid hs
    clear hs
    go_wp2
    go_ret
    exact ⟨_, [], rfl, .inr ⟨HS.out, rfl⟩, Nat.zero_le _, o1, .inl ⟨rfl, rfl⟩, fun h => by rw [HS.out] at h; cases h⟩
  | true =>
    have HS := Lib.hid hs
    clear hs
    have HO0 : Hid (OwnE 56 (w1.alloc (.cells #[] 56)) w1.heap.size (.slice (some ⟨w1.heap.size, 0, none⟩) 0 0) []) := Lib.hid (OwnE.empty (new_bk _ _ _) (Nat.le_refl _))
    go_wp2_with fail
    go_loopw [3, 4] (fun ov iv wr => ∃ k : Nat, iv = .int .i64 k ∧ k ≤ Ls.length ∧ Old w1 wr ∧ Hid (OwnE 56 wr w1.heap.size ov (Ls.take k).flatten)) (fun _ iv _ => Ls.length - (intOf iv).toNat)
    case atStart => exact ⟨0, rfl, Nat.zero_le _, old_alloc _ _, HO0⟩
    case round =>
      obtain ⟨k, rfl, hk, o2, HO⟩ := hrel
      by_cases hlt : k < Ls.length
      · obtain ⟨L, HX⟩ : ∃ L, Hid (Ls[k]? = some L) := ⟨Ls[k], Lib.hid (List.getElem?_eq_getElem hlt)⟩
        obtain ⟨b, off, u, rfl, hu, hit⟩ := ((HI.out.old o1).old o2).at_ HX.out
        have HIT := Lib.hid hit
        obtain ⟨A1, c1, rfl, -⟩ := hit.form
        have HLN := Lib.hid (HF.out k L HX.out)
        clear hit
        go_wp2_with (at_builtin; refine wp_its rfl (.tmp 15) (.tmp 19) 40 56 Try.underlying40 Try.infoItemR rfl (W0 := w1) o2 _ _ L rfl HO.out _ rfl HIT.out (by have := HLN.out; omega) ?_; intro v8 w8 n8 o8; refine Hid.out ?_)
        have HO8 : Hid (OwnE 56 w8 w1.heap.size v8 (Ls.take (k + 1)).flatten) := Lib.hid (by
          rw [← take_at HX.out, List.flatten_append]
          simpa using n8)
        clear n8 HO HX HIT HLN hu
        refine Lib.hid ?_
        go_wp2
        go_round
        case rel => exact ⟨k + 1, by go_num, by omega, o8, HO8⟩
        case measure => simp [intOf]; omega
      · obtain rfl : k = Ls.length := by omega
        have HO2 : Hid (OwnE 56 wr w1.heap.size _ Ls.flatten) := Lib.hid (by have := HO.out; rwa [List.take_length] at this)
        have C := rresolve_any wr _ Ls.flatten HO2.out.its (by omega)
        go_wp2_with fail
        refine C.mono ?_
        clear C
        rintro e w2 ⟨u2, out, rfl, r1, r2, o3, r4⟩
        have HE := Lib.hid (And.intro r1 (And.intro r2 r4))
        clear r1 r2 r4
        go_wp2
        go_ret
        exact ⟨_, out, rfl, .inl ⟨HS.out, HE.out.1⟩, HE.out.2.1, (o1.tr o2).tr o3, HE.out.2.2.its, fun _ => HE.out.2.2⟩

/-- A row of the reference's slices, and what they read as. -/
def RowR (w : World) (v : Value) (n : Nat) (P : Nat → List Itm) : Prop := ∃ base vs, w.ownsRow base 40 1 v n vs ∧ vs.length = n ∧ ∀ i u, vs[i]? = some u → ∃ out, IsRes (P i) out ∧ out.length ≤ (P i).length ∧ RitR w u out
/-- A row of slices reads as lists. -/
theorem RowR.lsts {w : World} {u : Value} {n : Nat} {P : Nat → List Itm} (h : RowR w u n P) : ∃ Ls, Ls.length = n ∧ Lsts w u Ls ∧ ∀ i out, Ls[i]? = some out → IsRes (P i) out ∧ out.length ≤ (P i).length := by
  obtain ⟨base, vs, h1, h2, h3⟩ := h
  have h4 : ∀ i : Fin n, ∃ out, IsRes (P i.1) out ∧ out.length ≤ (P i.1).length ∧ RitR w (vs[i.1]'(by rw [h2]; exact i.2)) out := fun i => h3 i.1 _ (List.getElem?_eq_getElem (by rw [h2]; exact i.2))
  have key : ∀ (i : Nat) (L : List Itm), (List.ofFn fun i => Classical.choose (h4 i))[i]? = some L → ∃ hi : i < n, L = Classical.choose (h4 ⟨i, hi⟩) := fun i L hL => by
    obtain ⟨hi, e⟩ := List.getElem?_eq_some_iff.1 hL
    rw [List.length_ofFn] at hi
    refine ⟨hi, ?_⟩
    rw [← e, List.getElem_ofFn]
  refine ⟨List.ofFn fun i => Classical.choose (h4 i), List.length_ofFn, ?_, fun i out ho => ?_⟩
  · rcases h1.2 with ⟨rfl, h0⟩ | ⟨g, cap, cur, rfl, hb, hg, hnc, hcm, hcs, htake⟩
    · subst h0
      exact .inl ⟨rfl, by simp⟩
    · refine .inr ⟨⟨g, 0, none⟩, cap, by rw [List.length_ofFn], by rw [List.length_ofFn]; exact hnc, fun _ => ⟨g, 0, rfl, fun i L hL => ?_⟩⟩
      obtain ⟨hi, rfl⟩ := key i L hL
      have hx : vs[i]? = some (vs[i]'(by omega)) := List.getElem?_eq_getElem (by omega)
      have hc := World.ownsRow.cells h1 (g := g) rfl i _ hx
      rw [Addr.add_lit] at hc
      exact ⟨_, hc, (Classical.choose_spec (h4 ⟨i, hi⟩)).2.2.its⟩
  · obtain ⟨hi, rfl⟩ := key i out ho
    have := Classical.choose_spec (h4 ⟨i, hi⟩)
    exact ⟨this.1, this.2.1⟩

set_option maxRecDepth 100000 in
set_option maxHeartbeats 8000000 in
theorem rpass_row (w : World) (v : Value) (Ls : List (List Itm)) (h : Lsts w v Ls) (hl : Ls.length ≤ 30000) (ht : Ls.flatten.length ≤ 39000) (hs : ∀ L ∈ Ls, Strict L) (m : Nat) (hm : 2 ≤ m) (hm2 : m ≤ 9223372036854775807) :
    Calls Try.prog 16 #[v, .int .i64 (m : Int)] w fun e W' => ∃ u, e = .returned (.tuple #[u, .int .i64 0]) ∧ RowR W' u (many Ls.length m) (fun i => (grp Ls m i).flatten) ∧ Old w W' := by
  have C := rsortedL_any w v Ls h (by omega) (fun L hL => by have := len_flat hL; omega)
  rw [(allB_iff Ls).2 hs] at C
  have hmw : ¬ (m : Int) < 2 := by omega
  obtain ⟨A, cap, rfl, hc⟩ := h.form
  have HI := Lib.hid h
  have HS := Lib.hid hs
  clear h hs
  go_enter Try.func16, Try.ntmps16
  go_wp2_with fail
  refine C.mono ?_
  clear C
  rintro e w1 ⟨rfl, o0⟩
  have HR0 : Hid ((w1.alloc (.cells #[] 40)).ownsRow w.heap.size 40 1 (.slice (some ⟨w1.heap.size, 0, none⟩) 0 0) 0 []) := Lib.hid ⟨rfl, .inr ⟨w1.heap.size, 0, #[], rfl, o0.size, new_bk _ _ _, Nat.le_refl _, by simp, rfl, rfl⟩⟩
  go_wp2_with fail
  go_loopw [0, 6] (fun lv ov wr => ∃ (k : Nat) (R : List (List Itm)) (A' : Option Addr) (c' : Nat) (vs : List Value), lv = .slice A' R.length c' ∧ Old w wr ∧ R.length ≤ Ls.length ∧ k + R.length ≤ Ls.length + 0 ∧ Hid (Lsts w (.slice A' R.length c') R ∧ R = Ls.drop (k * m)) ∧ Hid (k ≤ many Ls.length m) ∧ Hid (wr.ownsRow w.heap.size 40 1 ov k vs ∧ vs.length = k ∧ ∀ i u, vs[i]? = some u → ∃ out, IsRes (grp Ls m i).flatten out ∧ out.length ≤ (grp Ls m i).flatten.length ∧ RitR wr u out))
    (fun lv _ _ => match lv with | .slice _ q _ => q | _ => 0)
  case atStart => exact ⟨0, Ls, A, cap, [], rfl, o0.al _, Nat.le_refl _, by omega, Lib.hid ⟨HI.out, by simp⟩, Lib.hid (Nat.zero_le _), Lib.hid ⟨HR0.out, rfl, fun i u hu => by simp at hu⟩⟩
  case round =>
    obtain ⟨k, R, A', c', vs, rfl, o1, hrl, hkl, HR, HM, HV⟩ := hrel
    have HK := Lib.hid hkl
    by_cases h1 : 0 < R.length
    · obtain ⟨b, off, rfl⟩ : ∃ b off, A' = some ⟨b, off, none⟩ := by
        obtain ⟨b, off, u, e, -⟩ := HR.out.1.at_ (List.getElem?_eq_getElem h1)
        exact ⟨b, off, e⟩
      have hcc : R.length ≤ c' := by
        obtain ⟨_, _, e, h⟩ := HR.out.1.form
        injection e with e1 e2 e3
        omega
      have i1 : (0 : Int) < (R.length : Int) := by omega
      by_cases hq : m ≤ R.length
      · have i4 : ¬ (R.length : Int) < (m : Int) := by omega
        have hqn : min m R.length = m := by omega
        have hslq : ∀ W, (Instr.slice 33 (.slice (some ⟨b, off, none⟩) R.length c') (some (.int .i64 ((m : Nat) : Int))) none none).run Try.prog W = .ok (.slice (if c' = m then some ⟨b, off, none⟩ else some ⟨b, off + m, none⟩) (R.length - m) (c' - m)) W := fun W => sl_lists b off R.length c' m (by omega) W
        have hslp : ∀ W, (Instr.slice 33 (.slice (some ⟨b, off, none⟩) R.length c') none (some (.int .i64 ((m : Nat) : Int))) none).run Try.prog W = .ok (.slice (some ⟨b, off, none⟩) m c') W := fun W => sl_listp b off R.length c' m (by omega) W
        have hT := HR.out.1.take_ (k := m) (by omega)
        have hD := HR.out.1.drop_ (k := m) (by omega)
        generalize (if c' = m then (some ⟨b, off, none⟩ : Option Addr) else some ⟨b, off + m, none⟩) = A2 at *
        have hgr : R.take m = grp Ls m k := by
          rw [HR.out.2, grp]
        have C := rgroup_any wr _ _ (hT.old o1) (by rw [List.length_take]; omega) (by rw [hgr]; have := grp_flat_le Ls m k; omega)
        rw [hgr, (allB_iff _).2 (fun L hL => HS.out L (grp_mem hL))] at C
        have HD : Hid (Lsts w (.slice A2 (R.length - m) (c' - m)) (Ls.drop ((k + 1) * m))) := Lib.hid (by
          have e : R.drop m = Ls.drop ((k + 1) * m) := by
            rw [HR.out.2, List.drop_drop, Nat.add_mul, Nat.one_mul]
          rw [← e]; exact hD)
        have HL2 : Hid ((R.length - m) = (Ls.drop ((k + 1) * m)).length) := Lib.hid (by
          have := congrArg List.length HR.out.2
          rw [List.length_drop] at this ⊢
          rw [Nat.add_mul, Nat.one_mul]
          omega)
        clear hT hD hgr
        have HKM : Hid (k + 1 ≤ many Ls.length m) := Lib.hid ((many_lt (by omega)).2 (by
          have := congrArg List.length HR.out.2
          rw [List.length_drop] at this
          omega))
        have hqi : (0 : Int) ≤ ((m : Nat) : Int) := by omega
        go_wp2_with fail
        refine C.mono ?_
        clear C
        rintro e w2 ⟨u2, out, rfl, r1, r2, o2, r3, r4⟩
        have r1' : IsRes (grp Ls m k).flatten out := by
          rcases r1 with ⟨-, r⟩ | ⟨r, -⟩
          · exact r
          · rw [(allB_iff _).2 (fun L hL => HS.out L (grp_mem hL))] at r; cases r
        have hu := r4 trivial
        have hu2 := hu
        obtain ⟨gu, cu, ru, rfl, hcu, -⟩ := hu2
        have oa : Old w (w2.alloc (.cells #[.slice (some ⟨gu, 0, none⟩) out.length cu] 40)) := (o1.tr o2).al _
        have ob : Old wr (w2.alloc (.cells #[.slice (some ⟨gu, 0, none⟩) out.length cu] 40)) := o2.al _
        have hrw := row_old HV.out.1 ob
        have HU := Lib.hid (And.intro r1' (And.intro r2 (And.intro (hu.old (old_alloc w2 (.cells #[.slice (some ⟨gu, 0, none⟩) out.length cu] 40))) (And.intro ob hrw))))
        clear hu r1 r1' r2 r3 r4 ob
        go_wp2_with (at_builtin; refine wp_row rfl (.tmp 21) (.tmp 26) rfl (W0 := w) oa _ vs k rfl hrw _ rfl _ 1 rfl (new_bk _ _ _) (by omega) ?_; intro v8 w8 n8 o8 g8; refine Hid.out ?_)
        have HG : Hid (w8.ownsRow w.heap.size 40 1 v8 (k + 1) (vs ++ [Value.slice (some ⟨gu, 0, none⟩) out.length cu]) ∧ (vs ++ [Value.slice (some ⟨gu, 0, none⟩) out.length cu]).length = k + 1 ∧ ∀ i u, (vs ++ [Value.slice (some ⟨gu, 0, none⟩) out.length cu])[i]? = some u → ∃ out, IsRes (grp Ls m i).flatten out ∧ out.length ≤ (grp Ls m i).flatten.length ∧ RitR w8 u out) := Lib.hid (by
          obtain ⟨r1, r2, hu, ob, hrw⟩ := HU.out
          obtain ⟨h1, h2, h3⟩ := HV.out
          refine ⟨n8, by simp [h2], fun i x hx => ?_⟩
          rcases Nat.lt_or_ge i vs.length with hi | hi
          · rw [List.getElem?_append_left hi] at hx
            obtain ⟨o, p1, p2, p3⟩ := h3 i x hx
            exact ⟨o, p1, p2, (p3.old ob).grown hrw g8⟩
          · rw [List.getElem?_append_right hi] at hx
            obtain ⟨rfl, rfl⟩ : i = vs.length ∧ x = .slice (some ⟨gu, 0, none⟩) out.length cu := by
              rcases Nat.lt_or_ge 0 (i - vs.length) with q | q
              · rw [List.getElem?_eq_none (by simp; omega)] at hx; cases hx
              · rw [show i - vs.length = 0 by omega] at hx
                simp at hx
                exact ⟨by omega, hx.symm⟩
            rw [h2]
            exact ⟨out, r1, r2, hu.grown hrw g8⟩)
        obtain ⟨A8, cap8, rfl⟩ := row_sl n8
        clear n8 g8 HU HV hrw oa
        refine Lib.hid ?_
        go_wp2
        go_round
        case rel => exact ⟨k + 1, Ls.drop ((k + 1) * m), A2, c' - m, vs ++ [.slice (some ⟨gu, 0, none⟩) out.length cu], (by rw [← HL2.out]; try simp), o8, by have := HL2.out; omega, by have h5 := HL2.out; rw [List.length_drop] at h5 ⊢; have := HK.out; omega, Lib.hid ⟨by rw [← HL2.out]; exact HD.out, rfl⟩, HKM, HG⟩
        case measure =>
          first | (show R.length - m < R.length; omega) | (show 0 < R.length; omega)
      · have i4 : (R.length : Int) < (m : Int) := by omega
        have hqn : min m R.length = R.length := by omega
        have hslq : ∀ W, (Instr.slice 33 (.slice (some ⟨b, off, none⟩) R.length c') (some (.int .i64 ((R.length : Nat) : Int))) none none).run Try.prog W = .ok (.slice (if c' = R.length then some ⟨b, off, none⟩ else some ⟨b, off + R.length, none⟩) (R.length - R.length) (c' - R.length)) W := fun W => sl_lists b off R.length c' R.length (by omega) W
        have hslp : ∀ W, (Instr.slice 33 (.slice (some ⟨b, off, none⟩) R.length c') none (some (.int .i64 ((R.length : Nat) : Int))) none).run Try.prog W = .ok (.slice (some ⟨b, off, none⟩) R.length c') W := fun W => sl_listp b off R.length c' R.length (by omega) W
        have hT := HR.out.1.take_ (k := R.length) (by omega)
        have hD := HR.out.1.drop_ (k := R.length) (by omega)
        generalize (if c' = R.length then (some ⟨b, off, none⟩ : Option Addr) else some ⟨b, off + R.length, none⟩) = A2 at *
        have hgr : R.take R.length = grp Ls m k := by
          rw [grp, ← HR.out.2, List.take_of_length_le (Nat.le_refl _), List.take_of_length_le (by omega)]
        have C := rgroup_any wr _ _ (hT.old o1) (by rw [List.length_take]; omega) (by rw [hgr]; have := grp_flat_le Ls m k; omega)
        rw [hgr, (allB_iff _).2 (fun L hL => HS.out L (grp_mem hL))] at C
        have HD : Hid (Lsts w (.slice A2 (R.length - R.length) (c' - R.length)) (Ls.drop ((k + 1) * m))) := Lib.hid (by
          have e : R.drop R.length = Ls.drop ((k + 1) * m) := by
            rw [List.drop_length, List.drop_eq_nil_of_le (by have := congrArg List.length HR.out.2; rw [List.length_drop] at this; rw [Nat.add_mul, Nat.one_mul]; omega)]
          rw [← e]; exact hD)
        have HL2 : Hid ((R.length - R.length) = (Ls.drop ((k + 1) * m)).length) := Lib.hid (by
          have := congrArg List.length HR.out.2
          rw [List.length_drop] at this ⊢
          rw [Nat.add_mul, Nat.one_mul]
          omega)
        clear hT hD hgr
        have HKM : Hid (k + 1 ≤ many Ls.length m) := Lib.hid ((many_lt (by omega)).2 (by
          have := congrArg List.length HR.out.2
          rw [List.length_drop] at this
          omega))
        have hqi : (0 : Int) ≤ ((R.length : Nat) : Int) := by omega
        go_wp2_with fail
        refine C.mono ?_
        clear C
        rintro e w2 ⟨u2, out, rfl, r1, r2, o2, r3, r4⟩
        have r1' : IsRes (grp Ls m k).flatten out := by
          rcases r1 with ⟨-, r⟩ | ⟨r, -⟩
          · exact r
          · rw [(allB_iff _).2 (fun L hL => HS.out L (grp_mem hL))] at r; cases r
        have hu := r4 trivial
        have hu2 := hu
        obtain ⟨gu, cu, ru, rfl, hcu, -⟩ := hu2
        have oa : Old w (w2.alloc (.cells #[.slice (some ⟨gu, 0, none⟩) out.length cu] 40)) := (o1.tr o2).al _
        have ob : Old wr (w2.alloc (.cells #[.slice (some ⟨gu, 0, none⟩) out.length cu] 40)) := o2.al _
        have hrw := row_old HV.out.1 ob
        have HU := Lib.hid (And.intro r1' (And.intro r2 (And.intro (hu.old (old_alloc w2 (.cells #[.slice (some ⟨gu, 0, none⟩) out.length cu] 40))) (And.intro ob hrw))))
        clear hu r1 r1' r2 r3 r4 ob
        go_wp2_with (at_builtin; refine wp_row rfl (.tmp 21) (.tmp 26) rfl (W0 := w) oa _ vs k rfl hrw _ rfl _ 1 rfl (new_bk _ _ _) (by omega) ?_; intro v8 w8 n8 o8 g8; refine Hid.out ?_)
        have HG : Hid (w8.ownsRow w.heap.size 40 1 v8 (k + 1) (vs ++ [Value.slice (some ⟨gu, 0, none⟩) out.length cu]) ∧ (vs ++ [Value.slice (some ⟨gu, 0, none⟩) out.length cu]).length = k + 1 ∧ ∀ i u, (vs ++ [Value.slice (some ⟨gu, 0, none⟩) out.length cu])[i]? = some u → ∃ out, IsRes (grp Ls m i).flatten out ∧ out.length ≤ (grp Ls m i).flatten.length ∧ RitR w8 u out) := Lib.hid (by
          obtain ⟨r1, r2, hu, ob, hrw⟩ := HU.out
          obtain ⟨h1, h2, h3⟩ := HV.out
          refine ⟨n8, by simp [h2], fun i x hx => ?_⟩
          rcases Nat.lt_or_ge i vs.length with hi | hi
          · rw [List.getElem?_append_left hi] at hx
            obtain ⟨o, p1, p2, p3⟩ := h3 i x hx
            exact ⟨o, p1, p2, (p3.old ob).grown hrw g8⟩
          · rw [List.getElem?_append_right hi] at hx
            obtain ⟨rfl, rfl⟩ : i = vs.length ∧ x = .slice (some ⟨gu, 0, none⟩) out.length cu := by
              rcases Nat.lt_or_ge 0 (i - vs.length) with q | q
              · rw [List.getElem?_eq_none (by simp; omega)] at hx; cases hx
              · rw [show i - vs.length = 0 by omega] at hx
                simp at hx
                exact ⟨by omega, hx.symm⟩
            rw [h2]
            exact ⟨out, r1, r2, hu.grown hrw g8⟩)
        obtain ⟨A8, cap8, rfl⟩ := row_sl n8
        clear n8 g8 HU HV hrw oa
        refine Lib.hid ?_
        go_wp2
        go_round
        case rel => exact ⟨k + 1, Ls.drop ((k + 1) * m), A2, c' - R.length, vs ++ [.slice (some ⟨gu, 0, none⟩) out.length cu], (by rw [← HL2.out]; try simp), o8, by have := HL2.out; omega, by have h5 := HL2.out; rw [List.length_drop] at h5 ⊢; have := HK.out; omega, Lib.hid ⟨by rw [← HL2.out]; exact HD.out, rfl⟩, HKM, HG⟩
        case measure =>
          first | (show R.length - m < R.length; omega) | (show 0 < R.length; omega)
    · have HE : Hid (wr.ownsRow w.heap.size 40 1 _ (many Ls.length m) vs ∧ vs.length = many Ls.length m ∧ ∀ i u, vs[i]? = some u → ∃ out, IsRes (grp Ls m i).flatten out ∧ out.length ≤ (grp Ls m i).flatten.length ∧ RitR wr u out) := Lib.hid (by
        have e : k = many Ls.length m := by
          have h5 := congrArg List.length HR.out.2
          rw [List.length_drop] at h5
          have h6 : ¬ k < many Ls.length m := fun h => by
            have := (many_lt (by omega)).1 h
            omega
          rcases Nat.eq_zero_or_pos k with q | q
          · have h7 : Ls.length = 0 := by rw [q, Nat.zero_mul] at h5; omega
            rw [h7, many_nil (by omega), q]
          · have h8 := HM.out
            omega
        rw [← e]; exact HV.out)
      go_wp2
      exact bodyPost_ret (results_tmp2 rfl _ _ _) rfl ⟨_, rfl, ⟨w.heap.size, vs, HE.out⟩, o1⟩
end Go.Proofs.Ytbccpplpfcfboaa
