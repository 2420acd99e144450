/-
  All of the code. Conditions: lengths as written.
-/
import Derived.Test.YtohokmfbcehkgaaCPcs
namespace Go.Proofs.Ytohokmfbcehkgaa
open Go.RowKit Go.Shelf

/-- While pieces are put together. -/
structure AlI (e : TypeId) (w : World) (sv : Value) (us : List Value) (LL : List (List Cel)) (pv : Value) (ps : List (Nat × Value)) (PL : List (Nat × List Cel)) (Z : World) : Prop where
  od : Old w Z
  sl : OwnLL Z w.heap.size sv us LL
  pc : OwnP e Z w.heap.size pv ps PL
theorem AlI.old {e : TypeId} {w Z Z' : World} {sv pv : Value} {us : List Value} {LL : List (List Cel)} {ps : List (Nat × Value)} {PL : List (Nat × List Cel)} (h : AlI e w sv us LL pv ps PL Z) (o : Old Z Z') : AlI e w sv us LL pv ps PL Z' :=
  ⟨h.od.tr o, h.sl.old o, h.pc.old o⟩
theorem OwnP.no {e : TypeId} {w : World} {base base' : Nat} {v v1 : Value} {ps : List (Nat × Value)} {PL : List (Nat × List Cel)} {us : List Value} {LL : List (List Cel)} (h : OwnP e w base v ps PL) (hL : OwnLL w base' v1 us LL) (he : e ≠ 22) : ∀ j, v1.ownBlock = some j → v.ownBlock ≠ some j := fun j hj hq => by
  obtain ⟨-, cs, hc⟩ := hL.blk hj
  rcases h.outer.2 with ⟨rfl, -⟩ | ⟨g, cap, cur, rfl, hb, hg, -⟩
  · cases hq
  · have e' : g = j := by simpa [Value.ownBlock] using hq
    subst e'
    exact he (Bk.uniq hg hc)
theorem split_any (w : World) (v : Value) (l : List Cel) (h : Cels w v l) (hl : l.length ≤ 1000) (A2 : Option Addr) (cap2 : Nat) (bs : List (List UInt8)) (hS : Strs w A2 cap2 bs) (hbs : bs.length ≤ 1000) :
    Calls Try.prog 11 #[v, .slice A2 bs.length cap2] w fun e W' => ∃ u us, e = .returned (.tuple #[u, .int .i64 (splitE l bs)]) ∧ OwnLL W' w.heap.size u us (splitV l bs) ∧ Old w W' :=
  callsIn_wide.1 (split_in 3 (Nat.le_refl _) w v l h hl A2 cap2 bs hS hbs)
theorem rsplit_any (w : World) (v : Value) (l : List Cel) (h : Cels w v l) (hl : l.length ≤ 1000) (A2 : Option Addr) (cap2 : Nat) (bs : List (List UInt8)) (hS : Strs w A2 cap2 bs) (hbs : bs.length ≤ 1000) :
    Calls Try.prog 12 #[v, .slice A2 bs.length cap2] w fun e W' => ∃ u us, e = .returned (.tuple #[u, .int .i64 (splitE l bs)]) ∧ OwnLL W' w.heap.size u us (splitV l bs) ∧ Old w W' :=
  callsIn_wide.1 (rsplit_in 3 (Nat.le_refl _) w v l h hl A2 cap2 bs hS hbs)
theorem roll_any (w : World) (v : Value) (l : List Cel) (h : Cels w v l) (hl : l.length ≤ 1000) (most : Int) (hmost : most ≤ 9223372036854775807) :
    Calls Try.prog 18 #[v, .int .i64 most] w fun e W' => ∃ u us, e = .returned (.tuple #[u, .int .i64 (rollE l most)]) ∧ OwnLL W' w.heap.size u us (rollV l most) ∧ Old w W' :=
  callsIn_wide.1 (roll_in 3 (Nat.le_refl _) w v l h hl most hmost)
theorem splitE_vals (l : List Cel) (bs : List (List UInt8)) : splitE l bs = 0 ∨ splitE l bs = 1 ∨ splitE l bs = 40 := by
  unfold splitE
  split
  · exact .inr (.inl rfl)
  · split
    · exact .inr (.inr rfl)
    · exact .inl rfl
theorem rollL_len (most : Int) (l : List Cel) : (rollL most l).length ≤ l.length := by
  unfold rollL
  refine Nat.le_trans (rollG_len _ _) ?_
  rw [List.length_map]
  exact grps_len 0 l
theorem upP_len (LL : List (List Cel)) (most : Int) (n : Nat) (hL : ∀ L ∈ LL, L.length ≤ 1000) : (upP LL most n).length ≤ n * 1000 := by
  induction n with
  | zero => simp [upP]
  | succ n ih =>
    rw [upP_succ, List.length_append, List.length_map]
    have h1 := rollL_len most (LL[n]?.getD [])
    have h2 : (LL[n]?.getD []).length ≤ 1000 := by
      cases h : LL[n]? with
      | none => simp
      | some L => exact hL L (List.mem_of_getElem? h)
    omega

set_option maxRecDepth 100000 in
set_option maxHeartbeats 8000000 in
theorem all_any (w : World) (v : Value) (l : List Cel) (h : Cels w v l) (hl : l.length ≤ 1000) (A2 : Option Addr) (cap2 : Nat) (bs : List (List UInt8)) (hS : Strs w A2 cap2 bs) (hbs : bs.length ≤ 500) (most : Int) (hmost : most ≤ 9223372036854775807) :
    Calls Try.prog 20 #[v, .slice A2 bs.length cap2, .int .i64 most] w fun e W' => ∃ u ps, e = .returned (.tuple #[u, .int .i64 (allE l bs most)]) ∧ OwnP 43 W' w.heap.size u ps (allV l bs most) ∧ Old w W' := by
  obtain ⟨A, cap, rfl, hc⟩ := h.form
  have CS := Lib.hid (split_any w _ l h hl A2 cap2 bs hS (by omega))
  clear h hS
  go_enter Try.func20, Try.ntmps20
  go_wp2_with fail
  refine CS.out.mono ?_
  clear CS
  rintro e w1 ⟨u, us, rfl, h1, o1⟩
  obtain ⟨As, cs, rfl, hcs⟩ := h1.form
  have hsv := splitE_vals l bs
  by_cases he : splitE l bs = 0
  · obtain ⟨hb, hr, hV⟩ := splitE_0 he
    rw [hV] at h1 hcs ⊢
    rw [splitL_len] at h1 hcs ⊢
    have HR := Lib.hid hr
    have HI0 := Lib.hid (show AlI 43 w (.slice As (bs.length + 1) cs) us (splitL bs l) (.slice none 0 0) [] (upP (splitL bs l) most 0) w1 from ⟨o1, h1, OwnP.nil _ _ _⟩)
    have HE := Lib.hid (show allE l bs most = (if most < 1 then 1 else 0) by unfold allE; rw [he]; simp)
    have HLL := Lib.hid (show ∀ L ∈ splitL bs l, L.length ≤ 1000 from fun L hL => by
      unfold splitL at hL
      obtain ⟨i, -, rfl⟩ := List.mem_map.1 hL
      exact Nat.le_trans (List.length_filter_le _ _) hl)
    rw [he]
    clear hb hr hV h1 hsv he
    go_wp2_with fail
    go_loopw [10, 28] (fun pv iv wr => ∃ (i : Nat) (ps : List (Nat × Value)), iv = .int .i64 (i : Int) ∧ i ≤ bs.length + 1 ∧ (0 < i → ¬ most < 1) ∧ Hid (AlI 43 w (.slice As (bs.length + 1) cs) us (splitL bs l) pv ps (upP (splitL bs l) most i) wr)) (fun _ iv _ => bs.length + 1 - (intOf iv).toNat)
    case atStart => exact ⟨0, [], rfl, Nat.zero_le _, fun h => absurd h (by omega), HI0⟩
    case round =>
      obtain ⟨i, ps, rfl, hi, hm, HA⟩ := hrel
      clear HI0
      by_cases hlt : i < bs.length + 1
      · obtain ⟨g, ui, cur, rfl, hgb, hui, hin, -, hcu⟩ := HA.out.sl.at_ (splitL_at bs l (show i ≤ bs.length by omega))
        have HLI := Lib.hid (show rising (l.filter fun c => place bs c.row == i) = true from rising_filter HR.out _)
        have HAT := Lib.hid (show (splitL bs l)[i]?.getD [] = l.filter fun c => place bs c.row == i by rw [splitL_at bs l (by omega)]; rfl)
        have hfl := List.length_filter_le (fun c : Cel => place bs c.row == i) l
        generalize l.filter (fun c => place bs c.row == i) = li at *
        have CR := Lib.hid (roll_any wr ui li hin.cels (by omega) most hmost)
        obtain ⟨Au, cu, rfl, -⟩ := hin.cels.form
        have i1 : (i : Int) < (bs.length : Int) + 1 := by omega
        have i2 : (0 : Int) ≤ (i : Int) := by omega
        clear hui hin
        go_wp2_with fail
        refine CR.out.mono ?_
        clear CR hcu
        rintro e w3 ⟨ru, rus, rfl, h3, o3⟩
        obtain ⟨Ar, cr, rfl, hcr⟩ := h3.form
        by_cases hm1 : most < 1
        · have HE1 := Lib.hid (show rollE li most = 1 ∧ allE l bs most = 1 ∧ allV l bs most = [] by
            have e1 : allE l bs most = 1 := by rw [HE.out, if_pos hm1]
            refine ⟨by unfold rollE; rw [if_pos hm1], e1, ?_⟩
            unfold allV
            rw [e1]
            rfl)
          rw [HE1.out.1]
          have o4 := HA.out.od.tr o3
          clear hm hm1
          go_wp2
          exact bodyPost_ret (results_tmp2 rfl _ _ _) rfl ⟨.slice none 0 0, [], by rw [HE1.out.2.1]; rfl, by rw [HE1.out.2.2]; exact OwnP.nil _ _ _, o4⟩
        · obtain ⟨e1, e2⟩ := roll_of hm1 HLI.out
          rw [e1]
          rw [e2] at h3 hcr ⊢
          have hrl := rollL_len most li
          have hos := HA.out.od.size
          have HI1 := Lib.hid (show AlI 43 w (.slice (some ⟨g, 0, none⟩) (bs.length + 1) cs) us (splitL bs l) u10 ps (upP (splitL bs l) most i ++ ((rollL most li).take 0).map fun c => (i, c)) w3 by
            rw [List.take_zero, List.map_nil, List.append_nil]
            exact HA.out.old o3)
          obtain ⟨gB, hgB⟩ : ∃ gB, gB = wr.heap.size := ⟨_, rfl⟩
          rw [← hgB] at h3 hos
          clear hgB
          have HR1 := Lib.hid h3
          have HUP := Lib.hid (show upP (splitL bs l) most (i + 1) = upP (splitL bs l) most i ++ (rollL most li).map fun c => (i, c) by rw [upP_succ, HAT.out])
          have hul := upP_len (splitL bs l) most i HLL.out
          have hul2 : i * 1000 ≤ 501000 := by omega
          generalize rollL most li = rl at *
          clear h3 e1 e2 HLI
          go_wp2_with fail
          go_loopw [10, 44] (fun pv kv wk => ∃ (k : Nat) (ps : List (Nat × Value)), kv = .int .i64 (k : Int) ∧ k ≤ rl.length ∧ Hid (OwnLL wk gB (.slice Ar rl.length cr) rus rl) ∧ Hid (AlI 43 w (.slice (some ⟨g, 0, none⟩) (bs.length + 1) cs) us (splitL bs l) pv ps (upP (splitL bs l) most i ++ (rl.take k).map fun c => (i, c)) wk)) (fun _ kv _ => rl.length - (intOf kv).toNat)
          case atStart => exact ⟨0, ps, rfl, Nat.zero_le _, HR1, HI1⟩
          case round =>
            obtain ⟨k, ps, rfl, hk, HRk, HAk⟩ := hrel
            have hul3 : (upP (splitL bs l) most i ++ (rl.take k).map fun c => (i, c)).length ≤ 1000000 := by
              rw [List.length_append, List.length_map, List.length_take]
              omega
            by_cases hk2 : k < rl.length
            · obtain ⟨c, HCX⟩ : ∃ c, Hid (rl[k]? = some c) := ⟨rl[k], Lib.hid (List.getElem?_eq_getElem hk2)⟩
              obtain ⟨gr, uk, curk, rfl, -, -, hok, -, hck⟩ := HRk.out.at_ HCX.out
              have hok := hok.low hos
              obtain ⟨Ak, ck, rfl, -⟩ := hok.cels.form
              have hpc := HAk.out.pc
              obtain ⟨Ap, cp, rfl, -⟩ := hpc.form
              have hod := HAk.out.od
              have i3 : (k : Int) < (rl.length : Int) := by omega
              have i4 : (0 : Int) ≤ (k : Int) := by omega
              have HPL := Lib.hid (show (upP (splitL bs l) most i ++ (rl.take k).map fun c => (i, c)) ++ [(i, c)] = upP (splitL bs l) most i ++ (rl.take (k + 1)).map fun c => (i, c) by
                rw [← take_at HCX.out, List.map_append, List.append_assoc]
                rfl)
              generalize hPL : (upP (splitL bs l) most i ++ (rl.take k).map fun c => (i, c)) = PL at *
              go_wp2_with (at_builtin; refine wp_piece 36 43 Try.underlying36 Try.infoP (by decide) rfl (.tmp 48) (.tmp 52) rfl (W0 := w) (hod.al _) _ ps PL rfl (hpc.old (old_alloc _ _)) i _ c (hok.old (old_alloc _ _)) wr.heap.size rfl (new_bk _ _ _) hul3 ?_; intro v8 w8 p8 o8 kc kl g8; refine Hid.out ?_)
              have oal := old_alloc wr (.cells #[.int .i64 (i : Int), .slice Ak c.length ck] 43)
              have HR9 := Lib.hid (kl _ _ _ _ ((hpc.old oal).no (HRk.out.old oal) (by decide)) (HRk.out.old oal))
              have HS9 := kl _ _ _ _ ((hpc.old oal).no (HAk.out.sl.old oal) (by decide)) (HAk.out.sl.old oal)
              rw [HPL.out] at p8
              have HA9 := Lib.hid (⟨o8, HS9, p8⟩ : AlI 43 w (.slice (some ⟨g, 0, none⟩) (bs.length + 1) cs) us (splitL bs l) v8 _ _ w8)
              refine Lib.hid ?_
              obtain ⟨Ap8, cp8, hv8, -⟩ := p8.form
              clear hpc hok hod kc kl g8 p8 o8 HS9 oal hck hPL
              subst hv8
              go_wp2
              go_roundw
              case rel => exact ⟨k + 1, _, by go_num, by omega, HR9, HA9⟩
              case measure => simp [intOf]; omega
            · obtain rfl : k = rl.length := by omega
              have HA9 := Lib.hid (show AlI 43 w (.slice (some ⟨g, 0, none⟩) (bs.length + 1) cs) us (splitL bs l) u10 ps (upP (splitL bs l) most (i + 1)) wr by
                have := HAk.out
                rw [List.take_length, ← HUP.out] at this
                exact this)
              go_wp2
              go_roundw
              case rel => exact ⟨i + 1, ps, by go_num, by omega, fun _ => by omega, HA9⟩
              case measure => simp [intOf]; omega
      · obtain rfl : i = bs.length + 1 := by omega
        have HF := Lib.hid (show allE l bs most = 0 ∧ allV l bs most = upP (splitL bs l) most (bs.length + 1) by
          have e1 : allE l bs most = 0 := by rw [HE.out, if_neg (hm (by omega))]
          refine ⟨e1, ?_⟩
          unfold allV
          rw [if_neg (by rw [e1]; simp)])
        obtain ⟨Ap, cp, rfl, -⟩ := HA.out.pc.form
        have hF := HA.out.pc
        rw [← HF.out.2] at hF ⊢
        have HFP := Lib.hid hF
        clear hF hm
        go_wp2
        exact bodyPost_ret (results_tmp2 rfl _ _ _) rfl ⟨_, ps, by rw [HF.out.1]; rfl, HFP.out, HA.out.od⟩
  · have HE := Lib.hid (show allE l bs most = splitE l bs ∧ allV l bs most = [] by
      have e1 : allE l bs most = splitE l bs := by unfold allE; rw [if_pos he]
      refine ⟨e1, ?_⟩
      unfold allV
      rw [e1, if_pos he])
    rcases hsv with h0 | h0 | h0
    · exact absurd h0 he
    · have HS := Lib.hid (show allE l bs most = 1 by rw [HE.out.1, h0])
      rw [h0]
      clear he h0
      go_wp2
      exact bodyPost_ret (results_tmp2 rfl _ _ _) rfl ⟨.slice none 0 0, [], by rw [HS.out]; rfl, by rw [HE.out.2]; exact OwnP.nil _ _ _, o1⟩
    · have HS := Lib.hid (show allE l bs most = 40 by rw [HE.out.1, h0])
      rw [h0]
      clear he h0
      go_wp2
      exact bodyPost_ret (results_tmp2 rfl _ _ _) rfl ⟨.slice none 0 0, [], by rw [HS.out]; rfl, by rw [HE.out.2]; exact OwnP.nil _ _ _, o1⟩
end Go.Proofs.Ytohokmfbcehkgaa
