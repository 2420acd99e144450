/-
  TableRows: whatever list of cells comes in, the law answers true, and leaves all as it was. Conditions: the row's own.
-/
import Derived.Test.YtlmlopdakbbbjaaDoorTLft
import Derived.Test.YtlmlopdakbbbjaaDoorTGrp
namespace Go.Proofs.YtlmlopdakbbbjaaDoor
open Go.ChangeShapes Go.WideShapes Go.ChangeAt Go.RowKit Go.Joins Go.Deep

theorem neqCell (a b : Cel) (w : World) : (binOp .neq 45 (cv a) (cv b)).run Tryd.prog w = .ok (.bool (!eqB a b)) w := by
  by_cases h1 : a.row = b.row
  case neg => go_simp; simp [eqB, *]
  by_cases h2 : a.col = b.col
  case neg => go_simp; simp [eqB, *]
  by_cases h3 : a.ts = b.ts
  case neg =>
    have h3' : ¬ ((a.ts : Int) = (b.ts : Int)) := by omega
    go_simp; simp [eqB, *]
  by_cases h4 : a.seq = b.seq
  case neg =>
    have h4' : ¬ ((a.seq : Int) = (b.seq : Int)) := by omega
    go_simp; simp [eqB, *]
  by_cases h5 : a.del = b.del
  case neg => go_simp; simp [eqB, *]
  by_cases h6 : a.val = b.val
  case neg => go_simp; simp [eqB, *]
  go_simp; simp [eqB, *]
theorem take_eq_cel {l m : List Cel} {k : Nat} (h1 : k < l.length) (h2 : k < m.length) : (l.take (k + 1) = m.take (k + 1)) ↔ (l.take k = m.take k ∧ l[k] = m[k]) := by
  rw [List.take_succ_eq_append_getElem h1, List.take_succ_eq_append_getElem h2]
  constructor
  · intro h
    have := List.append_inj h (by simp; omega)
    simpa using this
  · rintro ⟨h3, h4⟩
    rw [h3, h4]
/-- Are two lists the same? -/
noncomputable def sameL (l m : List Cel) : Bool := @decide (l = m) (Classical.propDecidable _)
theorem sameL_yes {l m : List Cel} (h : l = m) : sameL l m = true := by unfold sameL; simpa using h
theorem sameL_no {l m : List Cel} (h : l ≠ m) : sameL l m = false := by unfold sameL; simpa using h
set_option maxRecDepth 100000 in
set_option maxHeartbeats 4000000 in
theorem rsame_any (v v' : Value) (l m : List Cel) (w : World) (h : CelC w v l) (h' : CelC w v' m) (hl : l.length ≤ 1000) (hm : m.length ≤ 1000) :
    Calls Tryd.prog 16 #[v, v'] w fun e w' => e = .returned (.bool (sameL l m)) ∧ Old w w' := by
  obtain ⟨A, cap, rfl, -, hC⟩ := h
  obtain ⟨A', cap', rfl, -, hC'⟩ := h'
  by_cases hlm : l.length = m.length
  case neg =>
    have hb : (((l.length : Nat) : Int) != ((m.length : Nat) : Int)) = true := by rw [bne_iff_ne]; omega
    have HE := Lib.hid (sameL_no (l := l) (m := m) (fun e => hlm (by rw [e])))
    go_enter Tryd.func16, Tryd.ntmps16
    go_wp2
    go_ret
    exact ⟨ret_bool HE.out.symm, Old.re _⟩
  have hb : (((l.length : Nat) : Int) != ((m.length : Nat) : Int)) = false := by simp [hlm]
  go_enter Tryd.func16, Tryd.ntmps16
  go_wp2_with fail
  go_loopw [5] (fun i wr => ∃ k : Nat, k ≤ l.length ∧ i = .int .i64 k ∧ Old w wr ∧ Hid (l.take k = m.take k)) (fun i _ => l.length - (intOf i).toNat)
  case atStart => exact ⟨0, Nat.zero_le _, rfl, Old.re _, Lib.hid rfl⟩
  case round =>
    obtain ⟨k, hk, rfl, hw, HR⟩ := hrel
    by_cases h1 : k < l.length
    · have h2 : k < m.length := by omega
      obtain ⟨b, off, rfl, hA⟩ := hC (by rintro rfl; simp at h1)
      obtain ⟨b', off', rfl, hA'⟩ := hC' (by rintro rfl; simp at h2)
      have hx := (hA.at_ k h1).old hw
      have hy := (hA'.at_ k h2).old hw
      have HS := Lib.hid (take_eq_cel h1 h2)
      have HN := Lib.hid (show l[k] ≠ m[k] → l ≠ m from fun h e => h (by subst e; rfl))
      generalize l[k] = c at *
      generalize m[k] = d at *
      obtain ⟨a0, a1, a2, a3, a4, a5⟩ := hx.held
      obtain ⟨b0, b1, b2, b3, b4, b5⟩ := hy.held
      have i1 : (k : Int) < (l.length : Int) := by omega
      have i2 : (k : Int) < (m.length : Int) := by omega
      have he := fun W => neqCell c d W
      clear hb
      cases hq : eqB c d with
      | true =>
        have HX := Lib.hid ((eqB_iff c d).1 hq)
        rw [hq] at he
        clear hq
        go_wp2_with fail
        go_quiet (fail)
        go_wp2
        go_roundw
        case rel => exact ⟨k + 1, by omega, by go_num, hw.dn _, Lib.hid (HS.out.2 ⟨HR.out, HX.out⟩)⟩
        case measure => simp [intOf]; omega
      | false =>
        have HX := Lib.hid (sameL_no (HN.out (fun e => by rw [(eqB_iff c d).2 e] at hq; cases hq)))
        rw [hq] at he
        clear hq
        go_wp2_with fail
        go_quiet (fail)
        go_wp2
        go_ret
        exact ⟨ret_bool HX.out.symm, hw.dn _⟩
    · have HE := Lib.hid (sameL_yes (l := l) (m := m) (by have := HR.out; rwa [List.take_of_length_le (by omega), List.take_of_length_le (by omega)] at this))
      go_wp2
      go_ret
      exact ⟨ret_bool HE.out.symm, hw⟩

theorem row_empty {w : World} {base g : Nat} {e : TypeId} (h : Bk w g e #[]) (hb : base ≤ g) : w.ownsRow base e 1 (.slice (some ⟨g, 0, none⟩) 0 0) 0 [] :=
  ⟨rfl, .inr ⟨g, 0, #[], rfl, hb, h, Nat.le_refl _, by simp, rfl, rfl⟩⟩
theorem lastR_take (l : List Cel) (k : Nat) (h0 : 0 < k) (h : k ≤ l.length) : lastR (l.take k) = (l[k - 1]'(by omega)).row := by
  have hl : (l.take k).length = k := by simp; omega
  unfold lastR
  rw [hl, List.getElem?_take, if_pos (by omega), List.getElem?_eq_getElem (by omega)]
  rfl
set_option maxRecDepth 100000 in
set_option maxHeartbeats 4000000 in
theorem rrows_any (v : Value) (l : List Cel) (w : World) (h : CelC w v l) (hl : l.length ≤ 1000) :
    Calls Tryd.prog 13 #[v] w fun e w' => ∃ v', e = .returned v' ∧ w'.ownsRow w.heap.size 9 1 v' (rowsOf l).length (ts (rowsOf l)) ∧ Old w w' := by
  obtain ⟨A, cap, rfl, -, hC⟩ := h
  go_enter Tryd.func13, Tryd.ntmps13
  go_wp2_with fail
  go_loopw [3, 4] (fun vt i wr => ∃ k : Nat, k ≤ l.length ∧ i = .int .i64 k ∧ wr.ownsRow w.heap.size 9 1 vt (rowsOf (l.take k)).length (ts (rowsOf (l.take k))) ∧ Old w wr) (fun _ i _ => l.length - (intOf i).toNat)
  case atStart => exact ⟨0, Nat.zero_le _, rfl, row_empty (new_bk _ _ _) (Nat.le_refl _), old_alloc _ _⟩
  case round =>
    obtain ⟨k, hk, rfl, ho, hw⟩ := hrel
    by_cases h1 : k < l.length
    · obtain ⟨b, off, rfl, hA⟩ := hC (by rintro rfl; simp at h1)
      obtain ⟨a0, -⟩ := ((hA.at_ k h1).old hw).held
      have HT := Lib.hid (show rowsOf (l.take (k + 1)) = rowsOf (l.take k) ++ (if l.take k = [] ∨ lastR (l.take k) ≠ l[k].row then [l[k].row] else []) by rw [List.take_succ_eq_append_getElem h1, rowsOf_snoc])
      have hrl : (rowsOf (l.take k)).length ≤ 1000 := by
        have := Lib.compact_length_le ((l.take k).map (·.row))
        rw [List.length_map, List.length_take] at this
        unfold rowsOf
        omega
      have i1 : (k : Int) < (l.length : Int) := by omega
      by_cases hz : k = 0
      · subst hz
        have HT2 := Lib.hid (show rowsOf (l.take (0 + 1)) = rowsOf (l.take 0) ++ [l[0].row] by rw [HT.out, if_pos (.inl rfl)])
        generalize l[0].row = x at *
        rw [Nat.zero_mul, Nat.add_zero] at a0
        have i0 : (0 : Int) < (l.length : Int) := by omega
        go_wp2_with fail
        go_quiet (fail)
        generalize hwd : (wr.drewN _ : World) = w2
        have o2 : Old wr w2 := by rw [← hwd]; exact (Old.re _).dn _
        have a2 := cell_old a0 o2
        have o3 := hw.tr o2
        have ho3 := row_old ho o2
        clear hwd a0 ho hw
        go_wp2_with (at_builtin; refine wp_one rfl (.tmp 28) (.tmp 34) 34 9 (.string ByteArray.empty) 16 (by decide) Tryd.underlying34 rfl Tryd.infoStr rfl (W0 := w) (o3.al _) _ _ _ rfl (row_old ho3 (old_alloc _ _)) (.string (B x)) rfl w2.heap.size 1 rfl (new_bk _ _ _) (by omega) ?_; intro v4 w4 n4 o4)
        go_roundw
        case rel =>
          refine ⟨0 + 1, by omega, by go_num, ?_, o4⟩
          rw [HT2.out, ts_snoc, List.length_append]
          exact n4
        case measure => simp [intOf]; omega
      · have hk1 : k - 1 < l.length := by omega
        obtain ⟨b0, -⟩ := ((hA.at_ (k - 1) hk1).old hw).held
        rw [lastR_take l k (by omega) hk] at HT
        have hne : l.take k ≠ [] := by
          intro e
          have := congrArg List.length e
          rw [List.length_take, List.length_nil] at this
          omega
        generalize l[k].row = x at *
        generalize l[k - 1].row = y at *
        have dz : ((k : Int) == 0) = false := by rw [beq_eq_false_iff_ne]; omega
        have i2 : (k : Int) - 1 < (l.length : Int) := by omega
        have i3 : (0 : Int) ≤ (k : Int) - 1 := by omega
        have i4 : ((k : Int) - 1).toNat = k - 1 := by omega
        by_cases hxy : x = y
        · have HT2 := Lib.hid (show rowsOf (l.take (k + 1)) = rowsOf (l.take k) by rw [HT.out, if_neg (by rintro (h | h); exact hne h; exact h hxy.symm), List.append_nil])
          have hbe : (x == y) = true := by simpa using hxy
          clear hxy HT
          go_wp2_with fail
          go_quiet (fail)
          go_wp2
          go_roundw
          case rel => exact ⟨k + 1, by omega, by go_num, by rw [HT2.out]; exact row_old ho ((Old.re _).dn _), hw.dn _⟩
          case measure => simp [intOf]; omega
        · have HT2 := Lib.hid (show rowsOf (l.take (k + 1)) = rowsOf (l.take k) ++ [x] by rw [HT.out, if_pos (.inr (fun e => hxy e.symm))])
          have hbe : (x == y) = false := by simpa using hxy
          clear hxy HT
          go_wp2_with fail
          go_quiet (fail)
          generalize hwd : (wr.drewN _ : World) = w2
          have o2 : Old wr w2 := by rw [← hwd]; exact (Old.re _).dn _
          have a2 := cell_old a0 o2
          have o3 := hw.tr o2
          have ho3 := row_old ho o2
          clear hwd a0 b0 ho hw
          go_wp2_with (at_builtin; refine wp_one rfl (.tmp 28) (.tmp 34) 34 9 (.string ByteArray.empty) 16 (by decide) Tryd.underlying34 rfl Tryd.infoStr rfl (W0 := w) (o3.al _) _ _ _ rfl (row_old ho3 (old_alloc _ _)) (.string (B x)) rfl w2.heap.size 1 rfl (new_bk _ _ _) (by omega) ?_; intro v4 w4 n4 o4)
          go_roundw
          case rel =>
            refine ⟨k + 1, by omega, by go_num, ?_, o4⟩
            rw [HT2.out, ts_snoc, List.length_append]
            exact n4
          case measure => simp [intOf]; omega
    · have e : k = l.length := by omega
      subst e
      rw [List.take_length] at ho
      go_wp2
      go_ret
      exact ⟨_, rfl, ho, hw⟩

theorem group_take {l : List Cel} (hs : rising l = true) (k : Nat) (hk : k < (rowsOf l).length) : ((rowsOf l).take (k + 1)).flatMap (fun r => l.filter fun c => c.row == r) = ((rowsOf l).take k).flatMap (fun r => l.filter fun c => c.row == r) ++ rowC l 0 (rowsOf l)[k] := by
  rw [List.take_succ_eq_append_getElem hk, List.flatMap_append, (row_sel l _ hs (List.getElem_mem hk)).1]
  simp
theorem group_len {l : List Cel} (hs : rising l = true) (k : Nat) : (((rowsOf l).take k).flatMap (fun r => l.filter fun c => c.row == r)).length ≤ l.length := by
  have h := congrArg List.length (rows_group l (srt_of hs))
  conv at h => lhs; rw [← List.take_append_drop k (rowsOf l)]
  rw [List.flatMap_append, List.length_append] at h
  omega

set_option maxRecDepth 100000 in
set_option maxHeartbeats 8000000 in
theorem law_rows (v : Value) (l : List Cel) (w : World) (h : CelC w v l) (hok : ∀ c ∈ l, c.ok) (hml : l.length ≤ maxLen) (ht : Tab w) :
    Calls Tryd.prog 4 #[v] w fun e w' => e = .returned (.bool true) ∧ Old w w' := by
  go_enter Tryd.func4, Tryd.ntmps4
  go_wp2_with fail
  refine (bounded_at v l _ h.cels hml).mono ?_
  rintro e w1 ⟨rfl, rfl⟩
  cases hbd : bdT l with
  | false =>
    go_wp2_with (go_at_call 9; refine (shown_any _ ht).mono ?_; rintro e w1 ⟨rfl, k1⟩)
    go_ret
    exact ⟨rfl, k1⟩
  | true =>
    have hl := bdT_len hbd
    clear hbd hml
    go_wp2_with fail
    refine (shown_any _ ht).mono ?_
    rintro e w1 ⟨rfl, k1⟩
    go_wp2_with fail
    refine (tbuild_any v l 0 _ (h.old k1) hok (by omega) (by decide) (ht.old k1)).mono ?_
    rintro e w2 ⟨rfl, k2⟩
    have o2 := k1.tr k2
    clear k1 k2
    by_cases he : errT l = 0
    case neg =>
      rw [buildTV_no 0 rfl he]
      have hne : (errT l != 0) = true := by simpa using he
      go_wp2
      go_ret
      exact ⟨rfl, o2⟩
    rw [buildTV_yes 0 he]
    have hla := (tbl_len 0 he)
    have hO := openO_tbl l 0 (by decide) he hok
    have hris := (errT_zero.1 he).2.2.2
    have hrow : ∀ r ∈ rowsOf l, r.length ≤ 100000 := by
      intro r hr
      obtain ⟨c, hc, rfl⟩ := rows_sub l r hr
      have hc2 : c ∈ (parts l).flatten := by rw [parts_flat]; exact hc
      obtain ⟨p, hp, hcp⟩ := List.mem_flatten.1 hc2
      have := (mayB_parts ((errB_zero.1 ((errT_zero.1 he).2.2.1 p hp)).2.1 c hcp)).2.1
      omega
    clear he
    generalize tbl l 0 = s at *
    have hs2 : s.length ≤ 300000 := by omega
    clear hla
    go_wp2_with fail
    refine (open_any s (by omega) _ (ht.old o2)).mono ?_
    rintro e w3 ⟨k3, ⟨hN, -⟩ | ⟨l', q', g, hO2, hg, rfl, hT⟩⟩
    · rw [hO] at hN; cases hN
    rw [hO] at hO2
    injection hO2 with hO2
    injection hO2 with e1 e2
    subst e1 e2
    have o3 := o2.tr k3
    clear o2 k3 hO hg
    go_wp2_with fail
    refine (rrows_any v l _ (h.old o3) (by omega)).mono ?_
    rintro e w4 ⟨vr, rfl, hR, k4⟩
    have o4 := o3.tr k4
    have hT4 := hT.old k4
    obtain ⟨Ar, cr, rfl, hS⟩ := strs_of_own hR (fun t ht => by have := hrow t ht; omega)
    have hrn : (rowsOf l).length ≤ 60 := by
      have := Lib.compact_length_le (l.map (·.row))
      rw [List.length_map] at this
      unfold rowsOf
      omega
    have HG := Lib.hid (rows_group l (srt_of hris))
    have HTk := Lib.hid (fun k hk => group_take hris k hk)
    have HL := Lib.hid (group_len hris)
    have HSel := Lib.hid (fun r hr => (row_sel l r hris hr).2)
    clear o3 k4 hT hR hris
    generalize hrs : rowsOf l = rs at *
    clear hrs
    have hh4 := h.old o4
    go_wp2_with fail
    go_loopw [8, 9] (fun va i wr => ∃ k : Nat, k ≤ rs.length ∧ i = .int .i64 k ∧ OwnC wr w4.heap.size va ((rs.take k).flatMap (fun r => l.filter fun c => c.row == r)) ∧ Old w4 wr) (fun _ i _ => rs.length - (intOf i).toNat)
    case atStart => exact ⟨0, Nat.zero_le _, rfl, own_empty (new_bk _ _ _) (Nat.le_refl _), old_alloc _ _⟩
    case round =>
      obtain ⟨k, hk, rfl, ho, hw⟩ := hrel
      by_cases hlt : k < rs.length
      · obtain ⟨-, b, off, rfl, hc⟩ := (hS.old hw).at_ k hlt
        have HT := Lib.hid (HTk.out k hlt)
        have hlen := HL.out (k + 1)
        rw [HT.out, List.length_append] at hlen
        have hsel := HSel.out _ (List.getElem_mem hlt)
        have hr2 := hrow _ (List.getElem_mem hlt)
        generalize rs[k] = r at *
        have i1 : (k : Int) < (rs.length : Int) := by omega
        have dl : decide (((lookP l r).length : Int) < 1) = false := decide_eq_false (by omega)
        go_wp2_with fail
        refine (looks_any g l 0 r _ (hT4.old hw) (by omega) (by omega) (ht.old (o4.tr hw))).mono ?_
        rintro e w6 ⟨rfl, k6⟩
        have o6 := hw.tr k6
        have ho6 := ho.old k6
        have hc6 := cell_old hc k6
        clear k6 hc ho
        go_wp2_with fail
        refine (row_any g l 0 r _ (hT4.old o6) (by omega) (by omega) (ht.old (o4.tr o6))).mono ?_
        rintro e w7 ⟨v7, b7, rfl, hO7, k7⟩
        have o7 := o6.tr k7
        have ho7 := ho6.old k7
        obtain ⟨A7, n7, c7, rfl⟩ := hO7.form
        clear k7 o6 ho6 hc6 dl hsel
        go_wp2_with (at_builtin; refine wp_cels rfl (.tmp 54) (.tmp 60) rfl (W0 := w4) o7 _ _ (rowC l 0 r) rfl ho7 b7 _ rfl hO7 (by omega) ?_; intro v8 w8 n8 o8)
        go_roundw
        case rel => exact ⟨k + 1, by omega, by go_num, by rw [HT.out]; exact n8, o8⟩
        case measure => simp [intOf]; omega
      · have e : k = rs.length := by omega
        subst e
        rw [List.take_length, HG.out] at ho
        have hh5 := hh4.old hw
        have HQ := Lib.hid (sameL_yes (l := l) (m := l) rfl)
        obtain ⟨A9, c9, rfl, -⟩ := ho.room
        go_wp2_with fail
        refine (rsame_any _ v l l _ ho.room hh5 (by omega) (by omega)).mono ?_
        rintro e w9 ⟨rfl, k9⟩
        rw [HQ.out]
        have o9 := (o4.tr hw).tr k9
        go_wp2
        go_ret
        exact ⟨rfl, o9⟩

set_option maxRecDepth 100000 in
theorem tableRows_contract (H : Type) (enc : TypeId × Value → H) (W : World) (base : Nat) (args : Array Value) (ds gs : List (DataW H)) (before : List MemPlace)
    (hval0 : ∀ (j : Nat) t v, Tryd.f4.params[j]? = some t → args[j]? = some v → Value.okWide Tryd.prog W .any base t v)
    (hW : DataW.Whole enc Tryd.prog Tryd.f4.params.toList Rows.tableRowsSpec.vars false W args.toList ds gs before) (hL : laidMetH Tryd.prog Rows.tableRowsRow.laid W) :
    Calls Tryd.prog 4 args W fun e W' => ∃ v, e = .returned v ∧ Rows.tableRowsSpec.post enc Tryd.prog Tryd.f4 false true false false W args v W' := by
  have ht : Tab W := table hL
  have hval : ∀ (j : Nat) t v, Tryd.f4.params[j]? = some t → args[j]? = some v → Value.okWide Tryd.prog W .any base t v := hval0
  have hW' := hW
  obtain ⟨p, q, hA0, hV, rfl, hfz, hnd⟩ := hW
  have hA : DataW.TrodAll enc Tryd.prog W 0 (fun _ => true) true Tryd.f4.params.toList args.toList ds p := hA0
  rw [Tryd.params4] at hA hval
  obtain ⟨v0, d0, rfl, rfl, h0⟩ := trodAll_one hA
  obtain ⟨rfl, rfl⟩ := trodVars_none hV
  have hlt : ∀ x ∈ p, x.block < W.heap.size := fun x hx => hW'.lt x (by simpa using hx)
  have k0 := h0
  obtain ⟨a0, o0, q0, m0, x0⟩ := open_cels (hval 0 22 v0 rfl rfl) h0 (fun x hx => hlt x (by simp [hx]))
  clear hA0 hval0
  refine (law_rows v0 a0 W (o0.room x0) q0 m0 ht).mono fun e W' ⟨he, hb⟩ => ?_
  subst he
  refine ⟨_, rfl, _, _, _, [], p, [], hW', trodAll_mk1 (shut_bool Tryd.underlying4 _), ?_, rfl, hb.frame _, fun h => by cases h⟩
  have r0 := Below.trod Tryd.laidOut (by kernel_rfl) (of_decide_eq_true (by kernel_rfl)) k0 hb (fun x hx => hlt x (by simp [hx]))
  exact trodAll_mk1 r0

set_option maxRecDepth 100000 in
theorem tableRows_met (os : Os) : laidMet Tryd.prog Rows.tableRowsRow.laid ((laidWorld os).forCall (fun _ _ => 0) ⟨#[], #[.slice none 0 0], []⟩).memory :=
  laidMet_of_run' 8 (by kernel_rfl) (by kernel_rfl)
set_option maxRecDepth 100000 in
theorem tableRows_reads (os : Os) {H : Type} (enc : TypeId × Value → H) : ∃ places, DataW.whole enc Tryd.prog ((laidWorld os).forCall (fun _ _ => 0) ⟨#[], #[.slice none 0 0], []⟩).memory Tryd.f4.params.toList Rows.tableRowsSpec.vars false (#[.slice none 0 0] : Array Value).toList 8 = some ([.nil], [], places) :=
  ⟨[], by kernel_rfl⟩

set_option maxRecDepth 100000 in
theorem tableRows_lifted (os : Os) (started : os.Started) (H : Type) (enc : TypeId × Value → H) (F : Stop.Interp) :
    ReturnsInHanded {} Tryd.checked os 4 .any ((OpenSpec.ofChange Rows.tableRowsSpec).preRow enc Tryd.prog Tryd.f4 Rows.tableRowsRow.domain false Rows.tableRowsRow.laid) (((OpenSpec.ofChange Rows.tableRowsSpec).at F).post enc Tryd.prog Tryd.f4 false true false false) := by
  obtain ⟨places, hx⟩ := tableRows_reads os enc
  refine returnsInHanded_of_row (C := Tryd.checked) (s := OpenSpec.ofChange Rows.tableRowsSpec) Tryd.own started (by kernel_rfl) Tryd.func4
    (witness_row_at (enc := enc) (C := Tryd.checked) false (laidWorld os) #[.slice none 0 0] rfl (by kernel_rfl) (by kernel_rfl) (by kernel_rfl)
      (OpenSpec.preRow_of_cond 8 hx (by kernel_rfl) (fun k hk => by cases hk) (by kernel_rfl) (tableRows_met os))) ?_
  intro W base args ds gs before hval hW _ _ _ hL _ _
  exact tableRows_contract H enc W base args ds gs before hval hW hL

set_option maxRecDepth 100000 in
theorem tableRows_said : Rows.TableRowsSaid :=
  OpenClaim.holds_of_cond 4 Tryd.f4 rfl rfl rfl rfl rfl rfl rfl ⟨rfl, rfl, rfl, rfl, rfl⟩ rfl rfl rfl rfl rfl (by kernel_rfl) Tryd.func4 (by kernel_rfl)
    (of_decide_eq_true (by kernel_rfl)) (by unfold Func.isWrapper; first | (rw [if_pos (by decide +kernel)]; kernel_rfl) | (rw [if_neg (by decide +kernel)]; exact ⟨rfl, rfl⟩))
    (fun os started H enc _ F => by rw [OpenClaim.pre_eq_preRow]; exact tableRows_lifted os started H enc F)

set_option maxRecDepth 100000 in
theorem tableRows_plain (f : FuncId) (fn : Func) (hf : Tryd.pinned.checked.prog.funcNamed Rows.tableRowsRow.func = some f) (hfn : Tryd.pinned.checked.prog.funcs[f]? = some fn) :
    false = Tryd.pinned.checked.prog.looks [] ∧ ∀ (j : Nat) t, fn.params[j]? = some t → Tryd.pinned.checked.prog.wantsStandIn t = false := by
  obtain rfl : f = 4 := Option.some.inj ((show Tryd.prog.funcNamed Rows.tableRowsRow.func = some 4 by kernel_rfl).symm.trans hf) |>.symm
  obtain rfl : fn = Tryd.f4 := (Option.some.inj (Tryd.func4.symm.trans hfn)).symm
  refine ⟨by kernel_rfl, fun j t ht => ?_⟩
  rw [Tryd.params4] at ht
  have hm := Array.mem_of_getElem? ht
  simp only [List.mem_toArray, List.mem_cons, List.not_mem_nil, or_false] at hm
  subst hm
  exact (show Tryd.prog.wantsStandIn 22 = false by kernel_rfl)

set_option maxRecDepth 100000 in
theorem tableRows_card : Rows.TableRowsCardSaid :=
  Claim7.holds_tied_plain_at .later [] _ _ _ _ tableRows_said (fun _ h => by cases h) (by kernel_rfl) (fun _ h => by cases h) tableRows_row_tie rfl ⟨rfl, rfl⟩ (by kernel_rfl) rfl tableRows_plain (by kernel_rfl)
#print axioms tableRows_card
end Go.Proofs.YtlmlopdakbbbjaaDoor
