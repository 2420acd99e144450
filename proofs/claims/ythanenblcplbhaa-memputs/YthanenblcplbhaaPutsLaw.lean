/-
  MemPuts: whatever cells and whatever three texts come in, the law answers true, and leaves all as it was. No conditions.
-/
import Derived.Test.YthanenblcplbhaaRFlt
import Derived.Test.YthanenblcplbhaaCLft
namespace Go.Proofs.Ythanenblcplbhaa
set_option maxRecDepth 100000
open Go.ChangeShapes Go.WideShapes Go.ChangeAt Go.RowKit Go.Joins Go.Deep

section
variable {H : Type} {enc : TypeId × Value → H} {P : Program} {w : World} {base : Nat} {spare : Nat → Bool} {held : Bool}
theorem trodAll_four' {t t' t'' t3 : TypeId} {args : Array Value} {ds : List (DataW H)} {ps : List MemPlace} (h : DataW.TrodAll enc P w base spare held [t, t', t'', t3] args.toList ds ps) :
    ∃ v v' v'' v3 d d' d'' d3 p p' p'' p3, args = #[v, v', v'', v3] ∧ ds = [d, d', d'', d3] ∧ ps = p ++ (p' ++ (p'' ++ p3)) ∧ DataW.Trod enc P w base spare held t v d p ∧ DataW.Trod enc P w base spare held t' v' d' p' ∧ DataW.Trod enc P w base spare held t'' v'' d'' p'' ∧ DataW.Trod enc P w base spare held t3 v3 d3 p3 := by
  obtain ⟨v, vs, d, ds', p, q, hargs, rfl, rfl, hd, hrest⟩ := trodAll_cons h
  obtain ⟨v', vs', d', ds2, p', q', rfl, rfl, rfl, hd', hrest'⟩ := trodAll_cons hrest
  obtain ⟨v'', vs'', d'', ds3, p'', q'', rfl, rfl, rfl, hd'', hrest''⟩ := trodAll_cons hrest'
  obtain ⟨v3, vs3, d3, ds4, p3, q3, rfl, rfl, rfl, hd3, hrest3⟩ := trodAll_cons hrest''
  obtain ⟨rfl, rfl, rfl⟩ := trodAll_nil hrest3
  exact ⟨v, v', v'', v3, d, d', d'', d3, p, p', p'', p3, by cases args; simp_all, rfl, by simp, hd, hd', hd'', hd3⟩
end
theorem keep_row {W0 W W' : World} {p : Addr} {v : Value} (h : Old W0 W ∧ W.cell? ⟨p.block, p.off, none⟩ = some v) (k : Old W W') : Old W0 W' ∧ W'.cell? ⟨p.block, p.off, none⟩ = some v := ⟨h.1.tr k, cell_old h.2 k⟩

set_option maxHeartbeats 32000000 in
theorem law_puts (v : Value) (l : List Cel) (a z s : List UInt8) (w : World) (h : Cels w v l) (hl : l.length ≤ maxLen) (hok : ∀ c ∈ l, c.ok) (ha : a.length ≤ maxLen) (hz : z.length ≤ maxLen) (hs : s.length ≤ maxLen) :
    Calls Try.prog 3 #[v, .string (B a), .string (B z), .string (B s)] w fun e w' => e = .returned (.bool true) ∧ Old w w' := by
  obtain ⟨A, cap, rfl, hc⟩ := h.form
  have CB := Lib.hid (bounded_any w _ l h hl)
  have ha' : a.length ≤ 9223372036854775807 := by unfold maxLen at ha; omega
  have hz' : z.length ≤ 9223372036854775807 := by unfold maxLen at hz; omega
  have hs' : s.length ≤ 9223372036854775807 := by unfold maxLen at hs; omega
  have HI := Lib.hid h
  have HOK := Lib.hid hok
  clear h hl ha hz hs hok
  go_enter Try.func3, Try.ntmps3
  go_wp2_with fail
  refine CB.out.mono ?_
  rintro e w1' ⟨rfl, hw1⟩
  have hw1' := hw1.symm
  subst hw1'
  clear hw1 CB
  cases hbd : boundedL l with
  | false =>
    go_wp2_with fail
    refine (shown_any _).mono ?_
    rintro e w2 ⟨rfl, o2⟩
    go_wp2
    go_ret
    exact ⟨rfl, o2⟩
  | true =>
    have h80 := bounded_len hbd
    clear hbd
    by_cases hr1 : a.length ≤ 100
    · by_cases hr2 : z.length ≤ 100
      · by_cases hr3 : s.length ≤ 100
        · go_wp2_with fail
          refine (shown_any _).mono ?_
          rintro e w2 ⟨rfl, o2⟩
          go_wp2_with fail
          refine (new_any w2).mono ?_
          rintro e w3 ⟨rfl, h3, hlt3, o3⟩
          have h3' : Ow w w3 w2.heap.size .leaf := ⟨h3, by simp [BT.bls]; exact o2.size, o2.tr o3⟩
          have oA := old_alloc w3 (.cells #[] 31)
          have H3 := Lib.hid (h3'.old oA)
          have HR0 := Lib.hid (show OwnC (w3.alloc (.cells #[] 31)) w.heap.size (.slice (some ⟨w3.heap.size, 0, none⟩) (BT.ino .leaf).length 0) (BT.ino .leaf) from OwnC.empty (new_bk w3 31 #[]) h3'.od.size)
          clear h3 hlt3 o3 o2 h3' oA
          generalize w2.heap.size = tb at H3 ⊢
          clear w2 hr1 hr2 hr3 ha' hz' hs'
          go_wp2_with fail
          go_loopw [10, 11] (fun rv iv wr => ∃ (k : Nat) (t : BT) (g cp : Nat), iv = .int .i64 k ∧ rv = .slice (some ⟨g, 0, none⟩) t.ino.length cp ∧ k ≤ l.length ∧ Hid (Ow w wr tb t) ∧ Hid (t.ino = puts [] (l.take k)) ∧ Hid (OwnC wr w.heap.size (.slice (some ⟨g, 0, none⟩) t.ino.length cp) t.ino)) (fun _ iv _ => l.length - (intOf iv).toNat)
          case atStart => exact ⟨0, .leaf, _, _, rfl, rfl, Nat.zero_le _, H3, Lib.hid rfl, HR0⟩
          case round =>
            clear H3 HR0
            obtain ⟨k, t, g, cp, rfl, rfl, hk, HO, HT, HR⟩ := hrel
            have ht80 : t.ino.length ≤ 80 := by
              rw [HT.out]
              have := puts_len (l.take k) []
              rw [List.length_take] at this
              simp at this
              omega
            by_cases hlt : k < l.length
            · obtain ⟨c, HX⟩ : ∃ c, Hid (l[k]? = some c) := ⟨l[k], Lib.hid (List.getElem?_eq_getElem hlt)⟩
              obtain ⟨b, off, rfl, hx⟩ := (HI.out.old HO.out.od).at_ HX.out
              obtain ⟨x0, x1, x2, x3, x4, x5⟩ := hx.held
              have CP := Lib.hid ((put_any tb t c wr HO.out.tbl (HOK.out c (List.mem_of_getElem? HX.out)) (by omega)).mono fun e w' hp => HO.out.put hp)
              have i1 : (0 : Int) ≤ (k : Int) := by omega
              have i2 : (k : Int) < (l.length : Int) := by omega
              clear hx
              go_wp2_with fail
              refine CP.out.mono ?_
              rintro e w4 ⟨rfl, t4, h4, e4, -, b4⟩
              have HO4 := Lib.hid h4
              have HR4 := Lib.hid (HR.out.buts HO.out.tbl b4)
              have HT4 := Lib.hid (show t4.ino = puts [] (l.take (k + 1)) by rw [e4, HT.out, take_snoc HX.out, puts_snoc])
              have CR := Lib.hid (rput_any w.heap.size g cp t.ino c w4 HR4.out HO4.out.od.size (by omega) HO.out.tbl.up)
              have HE4 := Lib.hid e4
              obtain ⟨b', off', he, hx⟩ := (HI.out.old HO4.out.od).at_ HX.out
              simp only [Option.some.injEq, Addr.mk.injEq, and_true] at he
              obtain ⟨rfl, rfl⟩ := he
              clear CP h4 e4 b4 x0 x1 x2 x3 x4 x5 HR HR4
              obtain ⟨x0, x1, x2, x3, x4, x5⟩ := hx.held
              clear hx
              go_wp2_with fail
              refine CR.out.mono ?_
              rintro e w5 ⟨g5, cp5, rfl, h5, o5⟩
              rw [← HE4.out] at h5 ⊢
              have HO5 := Lib.hid (HO4.out.old o5)
              have HR5 := Lib.hid h5
              have hpe : (putE c t.ino != putE c t.ino) = false := by simp
              clear CR h5 o5 HO4 x0 x1 x2 x3 x4 x5 HE4 HO HT ht80
              go_wp2
              go_roundw
              case rel => exact ⟨k + 1, t4, g5, cp5, by go_num, rfl, by omega, HO5, HT4, HR5⟩
              case measure => simp [intOf]; omega
            · obtain rfl : k = l.length := by omega
              clear HT
              obtain ⟨T, hTT⟩ : ∃ T, T = t.ino := ⟨_, rfl⟩
              rw [← hTT] at HR ht80
              rw [← hTT]
              have HTT := Lib.hid hTT
              clear hTT
              have hls : ∀ p : Cel → Bool, (T.filter p).length ≤ 80 := fun p => Nat.le_trans (List.length_filter_le _ _) ht80
              have HMY := Lib.hid (show ∀ c ∈ T, mayB c = true ∧ c.ok by rw [HTT.out]; exact HO.out.tbl.may)
              have C1 := Lib.hid (cells_any tb t wr HO.out.tbl (by rw [← HTT.out]; omega))
              rw [← HTT.out] at C1
              go_wp2_with fail
              refine C1.out.mono ?_
              rintro e w4 ⟨u1, rfl, n1, o4⟩
              obtain ⟨A1, k1, c1, rfl⟩ := n1.slice
              have HO := Lib.hid (HO.out.old o4)
              have HR := Lib.hid (HR.out.old o4)
              have C2 := Lib.hid (sameC_any w4 _ _ T n1.cels HR.out.cels (by omega))
              clear C1 n1 o4
              go_wp2_with fail
              refine C2.out.mono ?_
              rintro e w5 ⟨rfl, o5⟩
              have HO := Lib.hid (HO.out.old o5)
              have HR := Lib.hid (HR.out.old o5)
              have C3 := Lib.hid (span_any tb t a z w5 HO.out.tbl (by rw [← HTT.out]; omega))
              rw [← HTT.out] at C3
              clear C2 o5
              go_wp2_with fail
              refine C3.out.mono ?_
              rintro e w6 ⟨u2, rfl, n2, o6⟩
              obtain ⟨A2, k2, c2, rfl⟩ := n2.slice
              have HO := Lib.hid (HO.out.old o6)
              have HR := Lib.hid (HR.out.old o6)
              have N2 := Lib.hid n2
              have C4 := Lib.hid (rspan_any _ T a z w6 HR.out.cels (by omega))
              clear C3 n2 o6
              go_wp2_with fail
              refine C4.out.mono ?_
              rintro e w7 ⟨u3, rfl, n3, o7⟩
              obtain ⟨A3, k3, c3, rfl⟩ := n3.slice
              have HO := Lib.hid (HO.out.old o7)
              have HR := Lib.hid (HR.out.old o7)
              have C5 := Lib.hid (sameC_any w7 _ _ _ (N2.out.old o7).cels n3.cels (Nat.le_trans (hls _) (by omega)))
              clear C4 n3 o7 N2
              go_wp2_with fail
              refine C5.out.mono ?_
              rintro e w8 ⟨rfl, o8⟩
              have HO := Lib.hid (HO.out.old o8)
              have HR := Lib.hid (HR.out.old o8)
              have C6 := Lib.hid (row_any tb t s w8 HO.out.tbl (by rw [← HTT.out]; omega))
              rw [← HTT.out] at C6
              clear C5 o8
              go_wp2_with fail
              refine C6.out.mono ?_
              rintro e w9 ⟨u4, rfl, n4, o9⟩
              obtain ⟨A4, k4, c4, rfl⟩ := n4.slice
              have HO := Lib.hid (HO.out.old o9)
              have HR := Lib.hid (HR.out.old o9)
              have N4 := Lib.hid n4
              have C7 := Lib.hid (rrow_any _ T s w9 HR.out.cels (by omega))
              clear C6 n4 o9
              go_wp2_with fail
              refine C7.out.mono ?_
              rintro e w10 ⟨u5, rfl, n5, o10⟩
              obtain ⟨A5, k5, c5, rfl⟩ := n5.slice
              have HO := Lib.hid (HO.out.old o10)
              have HR := Lib.hid (HR.out.old o10)
              have C8 := Lib.hid (sameC_any w10 _ _ _ (N4.out.old o10).cels n5.cels (Nat.le_trans (hls _) (by omega)))
              clear C7 n5 o10 N4
              go_wp2_with fail
              refine C8.out.mono ?_
              rintro e w11 ⟨rfl, o11⟩
              have HO := Lib.hid (HO.out.old o11)
              have HR := Lib.hid (HR.out.old o11)
              have C9 := Lib.hid (many_any tb t w11 HO.out.tbl)
              rw [← HTT.out] at C9
              clear C8 o11
              go_wp2_with fail
              refine C9.out.mono ?_
              rintro e w12 ⟨rfl, o12⟩
              have HO := Lib.hid (HO.out.old o12)
              have HR := Lib.hid (HR.out.old o12)
              have C10 := Lib.hid (bytes_any tb t w12 HO.out.tbl)
              rw [← HTT.out] at C10
              clear C9 o12
              go_wp2_with fail
              refine C10.out.mono ?_
              rintro e w13 ⟨rfl, o13⟩
              have HO := Lib.hid (HO.out.old o13)
              have HR := Lib.hid (HR.out.old o13)
              have C11 := Lib.hid (rbytes_any _ T w13 HR.out.cels (by omega) HMY.out)
              clear C10 o13
              go_wp2_with fail
              refine C11.out.mono ?_
              rintro e w14 ⟨rfl, o14⟩
              have HO := Lib.hid (HO.out.old o14)
              have HR := Lib.hid (HR.out.old o14)
              clear C11 o14 HMY
              go_wp2_with fail
              go_loopw [15] (fun iv wr => ∃ k : Nat, iv = .int .i64 (k : Int) ∧ k ≤ T.length ∧ Old w14 wr) (fun iv _ => T.length - (intOf iv).toNat)
              case atStart => exact ⟨0, rfl, Nat.zero_le _, Old.re _⟩
              case round =>
                obtain ⟨k, rfl, hk, ow⟩ := hrel
                by_cases hlt : k < T.length
                · obtain ⟨x, HX⟩ : ∃ x, Hid (T[k]? = some x) := ⟨T[k], Lib.hid (List.getElem?_eq_getElem hlt)⟩
                  obtain ⟨b', off', he, hx⟩ := ((HR.out.old ow).cels).at_ HX.out
                  simp only [Option.some.injEq, Addr.mk.injEq, and_true] at he
                  obtain ⟨rfl, rfl⟩ := he
                  have x0 := hx.a0
                  rw [Nat.zero_add] at x0
                  have i1 : (0 : Int) ≤ (k : Int) := by omega
                  have i2 : (k : Int) < (T.length : Int) := by omega
                  have HR1 := Lib.hid fun (W : World) (oW : Old wr W) => (row_any tb t x.row W (HO.out.old (ow.tr oW)).tbl (by rw [← HTT.out]; omega))
                  simp only [← HTT.out] at HR1
                  have HR2 := Lib.hid fun (W : World) (oW : Old wr W) => rrow_any _ T x.row W (HR.out.old (ow.tr oW)).cels (by omega)
                  have HLN := Lib.hid (show (T.filter fun c => c.row == x.row).length ≤ 100000 from Nat.le_trans (hls _) (by omega))
                  clear hx
                  go_wp2_with fail
                  go_region_held3 (fun W => Old wr W ∧ W.cell? ⟨g, k * 6, none⟩ = some (.string (B x.row))) (first | exact ⟨(Old.re wr).dr, x0⟩ | exact keep_row (p := ⟨g, k * 6, none⟩) (by assumption) (by assumption))
                    (first
                      | (go_at_call 16; refine (HR1.out _ (And.left (by assumption))).mono ?_; rintro r1 wa ⟨u1, rfl, n1, k1⟩)
                      | (go_at_call 17; refine (HR2.out _ (And.left (by assumption))).mono ?_; rintro r2 wb ⟨u2, rfl, n2, k2⟩)
                      | (go_at_call 12; refine (sameC_any _ _ _ (T.filter fun c => c.row == x.row) (by first | exact n1.cels | exact (n1.old (by assumption)).cels) (by first | exact n2.cels | exact (n2.old (by assumption)).cels) HLN.out).mono ?_; rintro r3 wc ⟨rfl, k3⟩))
                  all_goals
                    have f9 : Old wr wc := And.left (by assumption)
                    have o9 := ow.tr f9
                    clear HR1 HR2 HLN
                    go_wp2
                    go_roundw
                    case rel => exact ⟨k + 1, by go_num, by omega, o9⟩
                    case measure => simp [intOf]; omega
                · obtain rfl : k = T.length := by omega
                  have CC := Lib.hid ((clear_any tb t wr (HO.out.old ow).tbl).mono fun e w' h => (show (∃ v, e = .returned v) ∧ Ow w w' tb .leaf from ⟨h.1, h.2.1, fun i hi => (HO.out.old ow).new_ i (by simp [BT.bls] at hi; simp [hi]), h.2.2.below (HO.out.old ow).od (HO.out.old ow).new_⟩))
                  clear HO HR ow
                  go_wp2_with fail
                  refine CC.out.mono ?_
                  rintro e wd ⟨⟨vd, rfl⟩, hO⟩
                  have HO := Lib.hid hO
                  have D1 : Hid (Calls Try.prog 18 #[.pointer (some ⟨tb, 0, none⟩)] wd fun e w' => e = .returned (.int .i64 0) ∧ Old wd w') := Lib.hid (many_any tb .leaf wd hO.tbl)
                  clear CC hO
                  go_wp2_with fail
                  refine D1.out.mono ?_
                  rintro e we ⟨rfl, oe⟩
                  have HO := Lib.hid (HO.out.old oe)
                  have D2 : Hid (Calls Try.prog 19 #[.pointer (some ⟨tb, 0, none⟩)] we fun e w' => e = .returned (.int .i64 0) ∧ Old we w') := Lib.hid (bytes_any tb .leaf we HO.out.tbl)
                  clear D1 oe
                  go_wp2_with fail
                  refine D2.out.mono ?_
                  rintro e wf ⟨rfl, of_⟩
                  have HO := Lib.hid (HO.out.old of_)
                  have D3 := Lib.hid (cells_any tb .leaf wf HO.out.tbl (by simp [BT.ino]))
                  clear D2 of_
                  go_wp2_with fail
                  refine D3.out.mono ?_
                  rintro e wg ⟨u9, rfl, n9, og⟩
                  obtain ⟨A9, c9, rfl, -⟩ := n9.cels.form
                  have o9 := (HO.out.old og).od
                  rw [show (BT.ino .leaf).length = 0 from rfl]
                  clear D3 n9 og HO
                  go_wp2
                  go_ret
                  exact ⟨rfl, o9⟩
        · go_wp2_with fail
          refine (shown_any _).mono ?_
          rintro e w2 ⟨rfl, o2⟩
          go_wp2
          go_ret
          exact ⟨rfl, o2⟩
      · go_wp2_with fail
        refine (shown_any _).mono ?_
        rintro e w2 ⟨rfl, o2⟩
        go_wp2
        go_ret
        exact ⟨rfl, o2⟩
    · go_wp2_with fail
      refine (shown_any _).mono ?_
      rintro e w2 ⟨rfl, o2⟩
      go_wp2
      go_ret
      exact ⟨rfl, o2⟩

set_option maxRecDepth 100000 in
theorem memPuts_lifted (os : Os) (started : os.Started) (H : Type) (enc : TypeId × Value → H) :
    ReturnsInHanded {} Try.checked os 3 .any (Rows.memPutsSpec.pre6 enc Try.prog Try.f3 Rows.memPutsRow.domain false) (Rows.memPutsSpec.post enc Try.prog Try.f3 false true false false) := by
  refine returnsInHanded_of_change_sized (C := Try.checked) Try.own started (by kernel_rfl) Try.func3
    (ChangeSpec.witness6 (enc := enc) (C := Try.checked) false ⟨#[], #[.slice none 0 0, .string ByteArray.empty, .string ByteArray.empty, .string ByteArray.empty], []⟩ 8 (by kernel_rfl) (by kernel_rfl) (by kernel_rfl) (by kernel_rfl)) ?_
  intro W base args ds gs before hval0 hW hcnd hsz0 _
  have hval : ∀ (j : Nat) t v, Try.f3.params[j]? = some t → args[j]? = some v → Value.okWide Try.prog W .any base t v := hval0
  have hW' := hW
  obtain ⟨p, q, hA0, hV, rfl, hfz, hnd⟩ := hW
  have hA : DataW.TrodAll enc Try.prog W 0 (fun _ => true) true Try.f3.params.toList args.toList ds p := hA0
  have hsz : (DataW.weightsEach Try.prog (Try.f3.params.toList ++ Rows.memPutsSpec.plain.varTypes Try.prog) (ds ++ gs)).all (· ≤ reachBytes) = true := hsz0
  rw [Try.params3] at hA hval hsz
  obtain ⟨v0, v1, v2, v3, d0, d1, d2, d3, p0, p1, p2, p3, rfl, rfl, rfl, h0, h1, h2, h3⟩ := trodAll_four' hA
  obtain ⟨rfl, rfl⟩ := trodVars_none hV
  have hlt : ∀ x ∈ p0 ++ (p1 ++ (p2 ++ (p3))), x.block < W.heap.size := fun x hx => hW'.lt x (by simpa using hx)
  have k0 := h0
  have k1 := h1
  have k2 := h2
  have k3 := h3
  obtain ⟨a0, o0, m0, x0⟩ := open_cels (hval 0 22 v0 rfl rfl) h0
  obtain ⟨a1, rfl, o1⟩ := open_str (hval 1 9 v1 rfl rfl) h1
  obtain ⟨a2, rfl, o2⟩ := open_str (hval 2 9 v2 rfl rfl) h2
  obtain ⟨a3, rfl, o3⟩ := open_str (hval 3 9 v3 rfl rfl) h3
  clear hA0 hval0 hsz0
  refine (law_puts v0 a0 a1 a2 a3 W o0 m0 x0 o1 o2 o3).mono fun e W' ⟨he, hb⟩ => ?_
  subst he
  refine ⟨_, rfl, _, _, _, [], p0 ++ (p1 ++ (p2 ++ (p3))), [], hW', trodAll_mk1 (shut_bool Try.underlying4 _), ?_, rfl, hb.frame _, fun h => by cases h⟩
  have r0 := Below.trod Try.laidOut (by kernel_rfl) (of_decide_eq_true (by kernel_rfl)) k0 hb (fun x hx => hlt x (by simp [hx]))
  have r1 := Below.trod Try.laidOut (by kernel_rfl) (of_decide_eq_true (by kernel_rfl)) k1 hb (fun x hx => hlt x (by simp [hx]))
  have r2 := Below.trod Try.laidOut (by kernel_rfl) (of_decide_eq_true (by kernel_rfl)) k2 hb (fun x hx => hlt x (by simp [hx]))
  have r3 := Below.trod Try.laidOut (by kernel_rfl) (of_decide_eq_true (by kernel_rfl)) k3 hb (fun x hx => hlt x (by simp [hx]))
  exact trodAll_mk4 r0 r1 r2 r3

theorem memPuts_holds : Rows.MemPutsSaid :=
  OpenClaim.holds_of_wide 3 Try.f3 rfl rfl rfl rfl rfl rfl rfl ⟨rfl, rfl, rfl, rfl, rfl⟩ rfl rfl rfl rfl rfl (by kernel_rfl) Try.func3 (by kernel_rfl)
    (of_decide_eq_true (by kernel_rfl)) (by unfold Func.isWrapper; first | (rw [if_pos (by decide +kernel)]; kernel_rfl) | (rw [if_neg (by decide +kernel)]; exact ⟨rfl, rfl⟩))
    (fun os started H enc _ => memPuts_lifted os started H enc)
#print axioms memPuts_holds
end Go.Proofs.Ythanenblcplbhaa
