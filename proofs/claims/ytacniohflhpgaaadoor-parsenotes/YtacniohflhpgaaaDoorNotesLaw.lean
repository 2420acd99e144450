/-
  ParseNotes: whatever cells and notes come in, the law answers true, and leaves all as it was. Conditions: the program's variables hold what its text lays.
-/
import Derived.Test.YtacniohflhpgaaaDoorPLin
import Derived.Test.YtacniohflhpgaaaDoorPPrw
import Derived.Test.YtacniohflhpgaaaDoorPLfw
namespace Go.Proofs.YtacniohflhpgaaaDoor
open Go.ChangeShapes Go.WideShapes Go.ChangeAt Go.RowKit Go.Joins Go.Deep

abbrev noteB : List UInt8 := [35, 32, 97, 32, 110, 111, 116, 101]
abbrev wrongB : List UInt8 := [119, 114, 111, 110, 103]
/-- What is known behind these lines: all are right, and tell these cells. -/
def Kg (M : List (List UInt8)) (G : List Cel) : Prop := Kn M 0 G ∧ ∀ x ∈ M, (10 : UInt8) ∉ x
theorem Kg.nil : Kg [] [] := ⟨Kn.nil, by simp⟩
theorem Kg.add {M : List (List UInt8)} {G : List Cel} (k : Kg M G) (x : List UInt8) (a : List Cel) (h : (10 : UInt8) ∉ x) (hl : x.length ≤ 4000) (he : outE x = 0) (ha : outL x = a) : Kg (M ++ [x]) (G ++ a) := by
  refine ⟨by rw [← ha]; exact k.1.ok x h hl he, fun y hy => ?_⟩
  rcases List.mem_append.1 hy with hy | hy
  · exact k.2 y hy
  · rw [List.mem_singleton.1 hy]; exact h
theorem Kg.blank {M : List (List UInt8)} {G : List Cel} (k : Kg M G) : Kg (M ++ [[]]) G := by
  have := k.add [] [] (by simp) (by simp) (by decide +kernel) (by kernel_rfl)
  rwa [List.append_nil] at this
theorem Kg.note {M : List (List UInt8)} {G : List Cel} (k : Kg M G) : Kg (M ++ [noteB]) G := by
  have := k.add noteB [] (by decide) (by decide) (by decide +kernel) (by kernel_rfl)
  rwa [List.append_nil] at this
theorem body_outs (c : Cel) (h : toldB c = true) (hl : (bodyL c).length ≤ 4000) : outE (bodyL c) = 0 ∧ outL (bodyL c) = [c] := by
  obtain ⟨h1, h2, h3⟩ := body_line c h
  have hs : scan 0 (spl 10 (bodyL c)) = .ok [c] := by
    rw [spl_none 10 _ h3, scan_some 0 _ _ c h2 h1]
    rfl
  obtain ⟨a, -, b⟩ := out_of hl hs
  exact ⟨b, a⟩
theorem Kg.cell {M : List (List UInt8)} {G : List Cel} (k : Kg M G) (c : Cel) (h : toldB c = true) (hl : (lineL c).length ≤ 200) : Kg (M ++ [bodyL c]) (G ++ [c]) := by
  have hl2 : (bodyL c).length ≤ 4000 := by simp [lineL] at hl; omega
  obtain ⟨h1, h2⟩ := body_outs c h hl2
  exact k.add _ _ (body_line c h).2.2 hl2 h1 h2
theorem Kg.len {M : List (List UInt8)} {G : List Cel} (k : Kg M G) : G.length ≤ M.length := by
  rcases k.1 with ⟨-, h, -⟩ | ⟨h, -⟩
  · exact h
  · omega
theorem Kg.end_ {M : List (List UInt8)} {G : List Cel} (k : Kg M G) (hl : (joinL M).length ≤ 3000) : outL (joinL M) = G ∧ outN (joinL M) = 0 ∧ outE (joinL M) = 0 := k.1.out0 k.2 (by omega)
theorem Kg.wrong {M : List (List UInt8)} {G : List Cel} (k : Kg M G) (hl : (joinL M).length ≤ 3000) : outL (joinL M ++ wrongB) = [] ∧ outN (joinL M ++ wrongB) = M.length + 1 ∧ outE (joinL M ++ wrongB) = 70 := by
  refine out_er (by simp; omega) ?_
  rw [spl_join M wrongB k.2 (by decide)]
  rcases k.1 with ⟨-, -, h⟩ | ⟨h, -⟩
  · rw [h, scan_none _ _ _ (by decide) (show lineO wrongB = none by kernel_rfl)]
    rfl
  · omega
theorem one_all (c : Cel) : printS [c] = (if toldB c = true then lineL c else []) ∧ printE [c] = (if toldB c = true then 0 else 1) := by
  unfold printS printE
  simp [printL]
theorem mod3 (b : UInt8) : b.toNat % 3 = 0 ∨ b.toNat % 3 = 1 ∨ b.toNat % 3 = 2 := by omega

set_option maxRecDepth 10000 in
set_option maxHeartbeats 8000000 in
theorem law_notes (v : Value) (l : List Cel) (A : Option Addr) (cap : Nat) (ns : List UInt8) (wrong : Bool) (w : World) (hC : CelC w v l) (hok : ∀ c ∈ l, c.wl) (hN : Bys w A cap ns) (ht : Env w) :
    Calls Tryd.prog 5 #[v, .slice A ns.length cap, .bool wrong] w fun e w' => e = .returned (.bool true) ∧ Old w w' := by
  obtain ⟨Al, capl, rfl, hcap, hat⟩ := hC
  have D := shown_any w ht
  by_cases hb1 : 10 < l.length
  · have hI : (10 : Int) < (l.length : Int) := by omega
    go_enter Tryd.func5, Tryd.ntmps5
    go_wp2_with (go_at_call 8; refine D.mono ?_; rintro e w4 ⟨rfl, o5⟩)
    go_ret
    exact ⟨rfl, o5⟩
  · have hI : (l.length : Int) ≤ 10 := by omega
    by_cases hb2 : 20 < ns.length
    · have hJ : (20 : Int) < (ns.length : Int) := by omega
      go_enter Tryd.func5, Tryd.ntmps5
      go_wp2_with (go_at_call 8; refine D.mono ?_; rintro e w4 ⟨rfl, o5⟩)
      go_ret
      exact ⟨rfl, o5⟩
    · have hJ : (ns.length : Int) ≤ 20 := by omega
      go_enter Tryd.func5, Tryd.ntmps5
      go_wp2_with (go_at_call 8; refine D.mono ?_; rintro e w1 ⟨rfl, o1⟩; refine Hid.out ?_)
      have ht1 := ht.old o1
      have hN1 := hN.old o1
      clear D hN
      refine Lib.hid ?_
      go_wp2_with fail
      go_loopw [7, 8, 9, 10, 11] (fun s ln kv gv iv wr => ∃ (i q : Nat) (M : List (List UInt8)) (G : List Cel), i ≤ l.length ∧ iv = .int .i64 i ∧ kv = .int .i64 q ∧ ln = .int .i64 M.length ∧ s = .string (B (joinL M)) ∧ q ≤ 20 + i ∧ M.length ≤ 50 ∧ G.length ≤ 50 ∧ OwnC wr w1.heap.size gv G ∧ Old w1 wr ∧ Hid (Kg M G ∧ (joinL M).length ≤ 200 * i + 9 * q ∧ M.length ≤ i + q)) (fun _ _ _ _ iv _ => l.length - (intOf iv).toNat)
      case atStart => exact ⟨0, 0, [], [], Nat.zero_le _, rfl, rfl, rfl, rfl, by omega, by simp, by simp, own_empty (new_bk _ _ _) (Nat.le_refl _), old_alloc _ _, Lib.hid ⟨Kg.nil, by simp [joinL], by simp⟩⟩
      case round =>
        obtain ⟨i, q, M, G, hi, rfl, rfl, rfl, rfl, hq, hM, hG, hown, ho, HK⟩ := hrel
        by_cases hlt : i < l.length
        · obtain ⟨b, off, rfl, hCA⟩ := hat (by intro e; rw [e] at hlt; simp at hlt)
          have hc6 := ((hCA.at_ i hlt).old o1).old ho
          have hwl := hok l[i] (List.getElem_mem hlt)
          have hiI : (i : Int) < (l.length : Int) := by omega
          have hne : ¬ capl = i := by omega
          have hci : (i : Int) + 1 ≤ (capl : Int) := by omega
          generalize l[i] = c at *
          have hwk : c.wk := by
            obtain ⟨g0, g1, g2, g3⟩ := hwl
            unfold maxLen at g1 g2 g3
            exact ⟨g0, by omega, by omega, by omega⟩
          have hone : CelsAt wr b (off + i * 6) [c] := fun j d hd => by
            cases j with
            | zero =>
              simp at hd
              subst hd
              simpa using hc6
            | succ j => simp at hd
          have P1 := printw_any (.slice (some ⟨b, off + i * 6, none⟩) 1 (capl - i)) [c] wr (ht1.old ho) (.inr ⟨b, off + i * 6, capl - i, rfl, hone⟩) (by simp) (by simpa using hwk)
          obtain ⟨e1, e2⟩ := one_all c
          obtain ⟨a0, a1, a2, a3, a4, a5⟩ := hc6.held
          generalize hSS : joinL M = S at *
          by_cases hb : toldB c = true
          · rw [if_pos hb] at e1 e2
            rw [e1, e2] at P1
            have HCG := Lib.hid (fun (M2 : List (List UInt8)) (k : Kg M2 G) (hl : (lineL c).length ≤ 200) => k.cell c hb hl)
            have HLB := Lib.hid (show lineL c = bodyL c ++ [10] from rfl)
            have hpl := line_len c (told_sm hb hwk.1)
            generalize lineL c = t at *
            by_cases hlen : 200 < t.length
            · have hlI : (200 : Int) < (t.length : Int) := by omega
              go_wp2_with (go_at_call 16; refine P1.mono ?_; rintro e w2 ⟨rfl, o2⟩)
              go_roundw
              case rel => exact ⟨i + 1, q, M, G, by omega, by go_num, rfl, rfl, by rw [hSS], by omega, hM, hG, hown.old o2, ho.tr o2, Lib.hid ⟨HK.out.1, by rw [hSS]; have := HK.out.2.1; omega, by have := HK.out.2.2; omega⟩⟩
              case measure => simp [intOf]; omega
            · have hlI : (t.length : Int) ≤ 200 := by omega
              go_wp2_with (go_at_call 16; refine P1.mono ?_; rintro e w2 ⟨rfl, o2⟩; refine Hid.out ?_)
              have ho2 := ho.tr o2
              have hown2 := hown.old o2
              have hc62 := hc6.old o2
              have HS0 := Lib.hid hSS
              clear P1 a0 a1 a2 a3 a4 a5 hone hc6 hSS
              refine Lib.hid ?_
              go_wp2_with fail
              go_loopw [7, 8, 9] (fun s ln kv wr2 => ∃ (q2 : Nat) (M2 : List (List UInt8)), kv = .int .i64 q2 ∧ ln = .int .i64 M2.length ∧ s = .string (B (joinL M2)) ∧ q2 ≤ 20 + i ∧ M2.length ≤ i + q2 ∧ Old w2 wr2 ∧ (joinL M2).length ≤ 200 * i + 9 * q2 ∧ Hid (Kg M2 G)) (fun _ _ kv _ => 100 - (intOf kv).toNat)
              case atStart => exact ⟨q, M, rfl, rfl, by rw [HS0.out], hq, HK.out.2.2, Old.re _, by rw [HS0.out]; exact HK.out.2.1, Lib.hid HK.out.1⟩
              case round =>
                obtain ⟨q2, M2, rfl, rfl, rfl, hq2, hM2, ho3, hJ2, HK2⟩ := hrel
                generalize hSS2 : joinL M2 = S2 at *
                by_cases hin : q2 < ns.length
                · obtain ⟨bn, offn, hAe, hcn⟩ := ((hN1.old ho2).old ho3).at_ q2 hin
                  subst hAe
                  have hqI : (q2 : Int) < (ns.length : Int) := by omega
                  have hyb := (ns[q2]).toNat_lt
                  generalize ns[q2] = y at *
                  rcases mod3 y with h3 | h3 | h3
                  · have h3I : (y.toNat : Int) % 3 = 0 := by omega
                    have hc63 := hc62.old ho3
                    obtain ⟨a0, a1, a2, a3, a4, a5⟩ := hc63.held
                    have ho4 := ho2.tr ho3
                    have hown3 := hown2.old ho3
                    have hgl := HK2.out.len
                    have hal : G.length + [c].length ≤ 100000 := by simp; omega
                    have HNW := Lib.hid (HCG.out M2 HK2.out (by omega))
                    have HJN := Lib.hid (show joinL (M2 ++ [bodyL c]) = S2 ++ t by rw [joinL_snoc, hSS2, HLB.out])
                    go_wp2_with (at_builtin; refine wp_cels rfl (.tmp 86) (.tmp 91) rfl (W0 := w1) (ho4.al _) _ G [c] rfl (hown3.old (old_alloc _ _)) wr.heap.size 0 1 1 rfl rfl (cels_one (new_bk _ _ _)) hal ?_; intro v8 w8 n8 o8)
                    go_roundw
                    case rel => exact ⟨i + 1, q2 + 1, M2 ++ [bodyL c], G ++ [c], by omega, by go_num, by go_num, by rw [List.length_append]; rfl, by rw [HJN.out]; exact congrArg Value.string (add_B _ _), by omega, by rw [List.length_append]; simp; omega, by rw [List.length_append]; simp; omega, n8, o8, Lib.hid ⟨HNW.out, by rw [HJN.out, List.length_append]; omega, by rw [List.length_append]; simp; omega⟩⟩
                    case measure => simp [intOf]; omega
                  · have h3I : (y.toNat : Int) % 3 = 1 := by omega
                    have hcn2 := cell_old hcn (old_alloc wr (.cells #[.string ⟨#[]⟩, .string ⟨#[10]⟩, .string ⟨#[35, 32, 97, 32, 110, 111, 116, 101, 10]⟩] 9))
                    have HNW := Lib.hid HK2.out.blank
                    have HJN := Lib.hid (show joinL (M2 ++ [[]]) = S2 ++ [10] by rw [joinL_snoc, hSS2]; rfl)
                    go_wp2
                    go_roundw
                    case rel => exact ⟨q2 + 1, M2 ++ [[]], by go_num, by rw [List.length_append]; rfl, by rw [HJN.out]; exact congrArg Value.string (add_B _ _), by omega, by rw [List.length_append]; simp; omega, ho3.al _, by rw [HJN.out, List.length_append]; simp; omega, HNW⟩
                    case measure => simp [intOf]; omega
                  · have h3I : (y.toNat : Int) % 3 = 2 := by omega
                    have hcn2 := cell_old hcn (old_alloc wr (.cells #[.string ⟨#[]⟩, .string ⟨#[10]⟩, .string ⟨#[35, 32, 97, 32, 110, 111, 116, 101, 10]⟩] 9))
                    have HNW := Lib.hid HK2.out.note
                    have HJN := Lib.hid (show joinL (M2 ++ [noteB]) = S2 ++ [35, 32, 97, 32, 110, 111, 116, 101, 10] by rw [joinL_snoc, hSS2]; rfl)
                    go_wp2
                    go_roundw
                    case rel => exact ⟨q2 + 1, M2 ++ [noteB], by go_num, by rw [List.length_append]; rfl, by rw [HJN.out]; exact congrArg Value.string (add_B _ _), by omega, by rw [List.length_append]; simp; omega, ho3.al _, by rw [HJN.out, List.length_append]; simp; omega, HNW⟩
                    case measure => simp [intOf]; omega
                · have hqI : ¬ (q2 : Int) < (ns.length : Int) := by omega
                  have hc63 := hc62.old ho3
                  obtain ⟨a0, a1, a2, a3, a4, a5⟩ := hc63.held
                  have ho4 := ho2.tr ho3
                  have hown3 := hown2.old ho3
                  have hgl := HK2.out.len
                  have hal : G.length + [c].length ≤ 100000 := by simp; omega
                  have HNW := Lib.hid (HCG.out M2 HK2.out (by omega))
                  have HJN := Lib.hid (show joinL (M2 ++ [bodyL c]) = S2 ++ t by rw [joinL_snoc, hSS2, HLB.out])
                  go_wp2_with (at_builtin; refine wp_cels rfl (.tmp 86) (.tmp 91) rfl (W0 := w1) (ho4.al _) _ G [c] rfl (hown3.old (old_alloc _ _)) wr.heap.size 0 1 1 rfl rfl (cels_one (new_bk _ _ _)) hal ?_; intro v8 w8 n8 o8)
                  go_roundw
                  case rel => exact ⟨i + 1, q2 + 1, M2 ++ [bodyL c], G ++ [c], by omega, by go_num, by go_num, by rw [List.length_append]; rfl, by rw [HJN.out]; exact congrArg Value.string (add_B _ _), by omega, by rw [List.length_append]; simp; omega, by rw [List.length_append]; simp; omega, n8, o8, Lib.hid ⟨HNW.out, by rw [HJN.out, List.length_append]; omega, by rw [List.length_append]; simp; omega⟩⟩
                  case measure => simp [intOf]; omega
          · rw [if_neg hb] at e1 e2
            rw [e1, e2] at P1
            go_wp2_with (go_at_call 16; refine P1.mono ?_; rintro e w2 ⟨rfl, o2⟩)
            go_roundw
            case rel => exact ⟨i + 1, q, M, G, by omega, by go_num, rfl, rfl, by rw [hSS], by omega, hM, hG, hown.old o2, ho.tr o2, Lib.hid ⟨HK.out.1, by rw [hSS]; have := HK.out.2.1; omega, by have := HK.out.2.2; omega⟩⟩
            case measure => simp [intOf]; omega
        · obtain rfl : i = l.length := by omega
          have hJl : (joinL M).length ≤ 3000 := by have := HK.out.2.1; omega
          cases wrong with
          | true =>
            have HO := Lib.hid (HK.out.1.wrong hJl)
            have F := cells_any (joinL M ++ wrongB) wr (ht1.old ho) (by simp; omega)
            have hadd : B (joinL M) ++ { data := #[119, 114, 111, 110, 103] } = B (joinL M ++ wrongB) := add_B _ _
            have hzl : (joinL M ++ wrongB).length = (joinL M).length + 5 := by simp
            generalize joinL M = S at *
            go_upto_region 22 with (fail)
            clear hadd
            generalize S ++ wrongB = Z at *
            go_wp2_with (go_at_call 9; refine F.mono ?_; rintro e w5 ⟨v5, rfl, h5, o5⟩; refine Hid.out ?_)
            obtain ⟨x1, x2, x3⟩ := HO.out
            rw [x1] at h5
            rw [x2, x3]
            obtain ⟨A5, cap5, rfl⟩ := h5.form2
            have hml : ((M.length + 1 : Nat) : Int) = (M.length : Int) + 1 := by omega
            rw [hml]
            refine Lib.hid ?_
            go_wp2
            go_ret
            exact ⟨rfl, (o1.tr ho).tr o5⟩
          | false =>
            have HO := Lib.hid (HK.out.1.end_ hJl)
            have F := cells_any (joinL M) wr (ht1.old ho) (by omega)
            generalize joinL M = S at *
            go_wp2_with (go_at_call 9; refine F.mono ?_; rintro e w5 ⟨v5, rfl, h5, o5⟩; refine Hid.out ?_)
            obtain ⟨x1, x2, x3⟩ := HO.out
            rw [x1] at h5
            rw [x2, x3]
            have R := rsame_at v5 u10 G w5 h5.cels (hown.old o5).cels (by omega)
            obtain ⟨A5, n5, cap5, rfl⟩ := h5.form
            obtain ⟨A6, n6, cap6, rfl⟩ := hown.form
            refine Lib.hid ?_
            go_wp2_with (go_at_call 11; refine R.mono ?_; rintro e w6 ⟨rfl, o6⟩)
            go_ret
            exact ⟨rfl, ((o1.tr ho).tr o5).tr o6⟩

set_option maxRecDepth 100000 in
theorem parseNotes_contract (H : Type) (enc : TypeId × Value → H) (W : World) (base : Nat) (args : Array Value) (ds gs : List (DataW H)) (before : List MemPlace)
    (hval0 : ∀ (j : Nat) t v, Tryd.f5.params[j]? = some t → args[j]? = some v → Value.okWide Tryd.prog W .any base t v)
    (hW : DataW.Whole enc Tryd.prog Tryd.f5.params.toList Rows.parseNotesSpec.vars false W args.toList ds gs before) (hL : laidMetH Tryd.prog Rows.parseNotesRow.laid W) (sh : W.ShapedOpen Tryd.prog) :
    Calls Tryd.prog 5 args W fun e W' => ∃ v, e = .returned v ∧ Rows.parseNotesSpec.post enc Tryd.prog Tryd.f5 false true false false W args v W' := by
  have ht : Env W := envP hL sh
  have hval : ∀ (j : Nat) t v, Tryd.f5.params[j]? = some t → args[j]? = some v → Value.okWide Tryd.prog W .any base t v := hval0
  have hW' := hW
  obtain ⟨p, q, hA0, hV, rfl, hfz, hnd⟩ := hW
  have hA : DataW.TrodAll enc Tryd.prog W 0 (fun _ => true) true Tryd.f5.params.toList args.toList ds p := hA0
  rw [Tryd.params5] at hA hval
  obtain ⟨v0, v1, v2, d0, d1, d2, p0, p1, p2, rfl, rfl, rfl, h0, h1, h2⟩ := trodAll_three hA
  obtain ⟨rfl, rfl⟩ := trodVars_none hV
  have hlt : ∀ x ∈ p0 ++ (p1 ++ (p2)), x.block < W.heap.size := fun x hx => hW'.lt x (by simpa using hx)
  have k0 := h0
  have k1 := h1
  have k2 := h2
  obtain ⟨a0, o0, q0, m0, x0⟩ := open_celw (hval 0 23 v0 rfl rfl) h0 (fun x hx => hlt x (by simp [hx]))
  obtain ⟨a1, A1, c1, rfl, o1, m1⟩ := open_u8s (hval 1 37 v1 rfl rfl) h1 (fun x hx => hlt x (by simp [hx]))
  obtain ⟨a2, rfl⟩ := open_bl (hval 2 4 v2 rfl rfl) h2
  clear hA0 hval0
  refine (law_notes v0 a0 A1 c1 a1 a2 W (o0.room x0) q0 o1 ht).mono fun e W' ⟨he, hb⟩ => ?_
  subst he
  refine ⟨_, rfl, _, _, _, [], p0 ++ (p1 ++ (p2)), [], hW', trodAll_mk1 (shut_bool Tryd.underlying4 _), ?_, rfl, hb.frame _, fun h => by cases h⟩
  have r0 := Below.trod Tryd.laidOut (by kernel_rfl) (of_decide_eq_true (by kernel_rfl)) k0 hb (fun x hx => hlt x (by simp [hx]))
  have r1 := Below.trod Tryd.laidOut (by kernel_rfl) (of_decide_eq_true (by kernel_rfl)) k1 hb (fun x hx => hlt x (by simp [hx]))
  have r2 := Below.trod Tryd.laidOut (by kernel_rfl) (of_decide_eq_true (by kernel_rfl)) k2 hb (fun x hx => hlt x (by simp [hx]))
  exact trodAll_mk3 r0 r1 r2

set_option maxRecDepth 100000 in
theorem parseNotes_met (os : Os) : laidMet Tryd.prog Rows.parseNotesRow.laid ((laidWorld os).forCall (fun _ _ => 0) ⟨#[], #[.slice none 0 0, .slice none 0 0, .bool false], []⟩).memory :=
  laidMet_of_run3 8 (by kernel_rfl) (by kernel_rfl) (by kernel_rfl)
set_option maxRecDepth 100000 in
theorem parseNotes_reads (os : Os) {H : Type} (enc : TypeId × Value → H) : ∃ places, DataW.whole enc Tryd.prog ((laidWorld os).forCall (fun _ _ => 0) ⟨#[], #[.slice none 0 0, .slice none 0 0, .bool false], []⟩).memory Tryd.f5.params.toList Rows.parseNotesSpec.vars false (#[.slice none 0 0, .slice none 0 0, .bool false] : Array Value).toList 8 = some ([.nil, .nil, .lit (.bool false)], [], places) :=
  ⟨[], by kernel_rfl⟩

set_option maxRecDepth 100000 in
theorem parseNotes_lifted (os : Os) (started : os.Started) (H : Type) (enc : TypeId × Value → H) (F : Stop.Interp) :
    ReturnsInHanded {} Tryd.checked os 5 .any ((OpenSpec.ofChange Rows.parseNotesSpec).preRow enc Tryd.prog Tryd.f5 Rows.parseNotesRow.domain false Rows.parseNotesRow.laid) (((OpenSpec.ofChange Rows.parseNotesSpec).at F).post enc Tryd.prog Tryd.f5 false true false false) := by
  obtain ⟨places, hx⟩ := parseNotes_reads os enc
  refine returnsInHanded_of_row (C := Tryd.checked) (s := OpenSpec.ofChange Rows.parseNotesSpec) Tryd.own started (by kernel_rfl) Tryd.func5
    (witness_row_at (enc := enc) (C := Tryd.checked) false (laidWorld os) #[.slice none 0 0, .slice none 0 0, .bool false] rfl (by kernel_rfl) (by kernel_rfl) (by kernel_rfl)
      (OpenSpec.preRow_of_cond 8 hx (by kernel_rfl) (fun k hk => by cases hk) (by kernel_rfl) (parseNotes_met os))) ?_
  intro W base args ds gs before hval hW _ _ _ hL sh _
  exact parseNotes_contract H enc W base args ds gs before hval hW hL sh

set_option maxRecDepth 100000 in
theorem parseNotes_said : Rows.ParseNotesSaid :=
  OpenClaim.holds_of_cond 5 Tryd.f5 rfl rfl rfl rfl rfl rfl rfl ⟨rfl, rfl, rfl, rfl, rfl⟩ rfl rfl rfl rfl rfl (by kernel_rfl) Tryd.func5 (by kernel_rfl)
    (of_decide_eq_true (by kernel_rfl)) (by unfold Func.isWrapper; first | (rw [if_pos (by decide +kernel)]; kernel_rfl) | (rw [if_neg (by decide +kernel)]; exact ⟨rfl, rfl⟩))
    (fun os started H enc _ F => by rw [OpenClaim.pre_eq_preRow]; exact parseNotes_lifted os started H enc F)

set_option maxRecDepth 100000 in
theorem parseNotes_plain (f : FuncId) (fn : Func) (hf : Tryd.pinned.checked.prog.funcNamed Rows.parseNotesRow.func = some f) (hfn : Tryd.pinned.checked.prog.funcs[f]? = some fn) :
    true = Tryd.pinned.checked.prog.looks [] ∧ ∀ (j : Nat) t, fn.params[j]? = some t → Tryd.pinned.checked.prog.wantsStandIn t = false := by
  obtain rfl : f = 5 := Option.some.inj ((show Tryd.prog.funcNamed Rows.parseNotesRow.func = some 5 by kernel_rfl).symm.trans hf) |>.symm
  obtain rfl : fn = Tryd.f5 := (Option.some.inj (Tryd.func5.symm.trans hfn)).symm
  refine ⟨by kernel_rfl, fun j t ht => ?_⟩
  rw [Tryd.params5] at ht
  have hm := Array.mem_of_getElem? ht
  simp only [List.mem_toArray, List.mem_cons, List.not_mem_nil, or_false] at hm
  rcases hm with rfl | rfl | rfl
  all_goals first
    | exact (show Tryd.prog.wantsStandIn 23 = false by kernel_rfl)
    | exact (show Tryd.prog.wantsStandIn 37 = false by kernel_rfl)
    | exact (show Tryd.prog.wantsStandIn 4 = false by kernel_rfl)

set_option maxRecDepth 100000 in
theorem parseNotes_card : Rows.ParseNotesCardSaid :=
  Claim7.holds_tied_plain_at .later [] _ _ _ _ parseNotes_said (fun _ h => by cases h) (by kernel_rfl) (fun _ h => by cases h) parseNotes_row_tie rfl ⟨rfl, rfl⟩ (by kernel_rfl) rfl parseNotes_plain (by kernel_rfl)
#print axioms parseNotes_card
end Go.Proofs.YtacniohflhpgaaaDoor
