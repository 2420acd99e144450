/-
  MemSpans: whatever cells and whatever text come in, the law answers true, and leaves all as it was. No conditions.
-/
import Derived.Test.YthanenblcplbhaaMOwn
import Derived.Test.YthanenblcplbhaaCLft
namespace Go.Proofs.Ythanenblcplbhaa
set_option maxRecDepth 100000
open Go.ChangeShapes Go.WideShapes Go.ChangeAt Go.RowKit Go.Joins Go.Deep

theorem add_Bt (a b : List UInt8) : B a ++ B b = B (a ++ b) := by
  apply ByteArray.ext
  simp [B]
theorem Tbl.keep {W W' : World} {tb : Nat} {t : BT} (h : Tbl W tb t) (k : ∀ i ∈ tb :: t.bls, W'.heap[i]? = W.heap[i]?) : Tbl W' tb t :=
  ⟨h.box.imp fun _ ⟨a, b⟩ => ⟨(k tb (by simp)).trans a, b.keep fun i hi => k i (by simp [hi])⟩, h.nd, h.up, h.may⟩
/-- Cells appended to own ones: a table stays. -/
theorem Ow.grown {w W W' : World} {tb : Nat} {t : BT} {b : Nat} {v : Value} {L : List Cel} (h : Ow w W tb t) (hv : OwnC W b v L) (hg : W.grownBy W' v.ownBlock) (o : Old w W') : Ow w W' tb t := by
  refine ⟨h.tbl.keep fun i hi => ?_, h.new_, o⟩
  have hty : ∃ ty cs, Bk W i ty cs ∧ ty ≠ 31 := by
    obtain ⟨p, hb, ht⟩ := h.tbl.box
    rcases List.mem_cons.1 hi with rfl | hi
    · exact ⟨_, _, hb, by decide⟩
    · obtain ⟨cs, hc⟩ := ht.ty i hi
      exact ⟨_, _, hc, by decide⟩
  obtain ⟨ty, cs, hb, hne⟩ := hty
  refine hg.block i hb.lt fun e => ?_
  obtain ⟨-, cs', hc⟩ := hv.blk e.symm
  exact hne (hb.uniq hc)
/-- What holds of cells up to one of them alone, splits them. -/
theorem filter_split {p : Cel → Bool} : ∀ {L : List Cel}, (L.Pairwise fun x y => p y = true → p x = true) → L.filter p ++ L.filter (fun c => !p c) = L
  | [], _ => rfl
  | c :: L, h => by
    obtain ⟨h1, h2⟩ := List.pairwise_cons.1 h
    cases hc : p c with
    | true =>
      rw [List.filter_cons, if_pos hc, List.filter_cons, if_neg (by simp [hc]), List.cons_append, filter_split h2]
    | false =>
      have : L.filter p = [] := by
        rw [List.filter_eq_nil_iff]
        intro y hy hp
        rw [h1 y hy hp] at hc
        cases hc
      have e := filter_split h2
      rw [this] at e
      rw [List.filter_cons, if_neg (by simp [hc]), this, List.filter_cons, if_pos (by simp [hc]), List.nil_append]
      simpa using e
theorem span_all {T : List Cel} (h : Up T) (a : List UInt8) (ha : a ≠ []) : T.filter (inSpan [] a) ++ T.filter (inSpan a []) = T := by
  have e0 : ∀ s : List UInt8, cmpT s [] ≠ -1 := fun s => by cases s <;> simp [cmpT_nn, cmpT_cn]
  have e1 : T.filter (inSpan [] a) = T.filter fun c => decide (cmpT c.row a = -1) := by
    refine List.filter_congr fun c _ => ?_
    unfold inSpan
    cases a with
    | nil => exact absurd rfl ha
    | cons x y => simp [e0]
  have e2 : T.filter (inSpan a []) = T.filter fun c => !decide (cmpT c.row a = -1) := by
    refine List.filter_congr fun c _ => ?_
    unfold inSpan
    simp
  rw [e1, e2]
  refine filter_split (List.Pairwise.imp (fun {x y} hxy hy => ?_) h)
  simp only [decide_eq_true_eq] at hy ⊢
  have h1 := up_row hxy
  have h2 := cmpT_le_trans h1 (show cmpT y.row a ≤ 0 by omega)
  rcases cmpT_vals x.row a with q | q | q
  · exact q
  · have := cmpT_zero _ _ q
    rw [this] at h1
    have := cmpT_neg y.row a
    omega
  · omega
theorem next_text : ∀ s a : List UInt8, cmpT s a ≠ -1 → cmpT s (a ++ [0]) = -1 → s = a
  | [], [], _, _ => rfl
  | [], b :: t, h, _ => absurd (cmpT_nc b t) h
  | x :: s, [], _, h => by
    rw [List.nil_append, cmpT_cc] at h
    have : ¬ x.toNat < (0 : UInt8).toNat := Nat.not_lt_zero _
    rw [if_neg this] at h
    split at h
    · cases h
    · cases s <;> simp [cmpT_nn, cmpT_cn] at h
  | x :: s, b :: t, h1, h2 => by
    rw [List.cons_append, cmpT_cc] at h2
    rw [cmpT_cc] at h1
    split at h1
    · exact absurd rfl h1
    · split at h1
      · split at h2
        · omega
        · cases h2
      · rename_i q1 q2
        rw [if_neg q1, if_neg q2] at h2
        have e : x = b := UInt8.toNat_inj.1 (by omega)
        rw [e, next_text s t h1 h2]
theorem next_less : ∀ a : List UInt8, cmpT a (a ++ [0]) = -1
  | [] => rfl
  | x :: a => by rw [List.cons_append, cmpT_same]; exact next_less a
theorem span_row (T : List Cel) (a : List UInt8) : T.filter (inSpan a (a ++ [0])) = T.filter fun c => c.row == a := by
  refine List.filter_congr fun c _ => ?_
  rw [Bool.eq_iff_iff]
  unfold inSpan
  simp only [Bool.and_eq_true, decide_eq_true_eq, Bool.or_eq_true, beq_iff_eq]
  constructor
  · rintro ⟨h1, h2⟩
    rcases h2 with h2 | h2
    · simp at h2
    · exact next_text _ _ h1 h2
  · intro e
    rw [e]
    exact ⟨by rw [cmpT_refl]; decide, .inr (next_less a)⟩

set_option maxHeartbeats 16000000 in
theorem law_spans (v : Value) (l : List Cel) (a : List UInt8) (w : World) (h : Cels w v l) (hl : l.length ≤ maxLen) (hok : ∀ c ∈ l, c.ok) (ha : a.length ≤ maxLen) :
    Calls Try.prog 5 #[v, .string (B a)] w fun e w' => e = .returned (.bool true) ∧ Old w w' := by
  obtain ⟨A, cap, rfl, hc⟩ := h.form
  have CB := Lib.hid (bounded_any w _ l h hl)
  have ha' : a.length ≤ 9223372036854775807 := by unfold maxLen at ha; omega
  have HI := Lib.hid h
  have HOK := Lib.hid hok
  clear h hl ha hok
  go_enter Try.func5, Try.ntmps5
  go_wp2_with fail
  refine CB.out.mono ?_
  rintro e w1' ⟨rfl, hw1⟩
  have hw1' := hw1.symm
  subst hw1'
  clear hw1 CB
  cases hbd : boundedL l with
  | false =>
    go_wp2_with fail
    refine (shown_any _).mono ?_
    rintro e w2 ⟨rfl, o2⟩
    go_wp2
    go_ret
    exact ⟨rfl, o2⟩
  | true =>
    have h80 := bounded_len hbd
    clear hbd
    by_cases hr1 : a.length ≤ 100
    · by_cases hr2 : a = []
      · subst hr2
        go_wp2_with fail
        refine (shown_any _).mono ?_
        rintro e w2 ⟨rfl, o2⟩
        go_wp2
        go_ret
        exact ⟨rfl, o2⟩
      · have HNE := Lib.hid hr2
        have hem : a.isEmpty = false := by
          cases a with
          | nil => exact absurd rfl hr2
          | cons x y => rfl
        have hem2 : (a == []) = false := by simpa using hr2
        go_wp2_with fail
        refine (shown_any _).mono ?_
        rintro e w2 ⟨rfl, o2⟩
        go_wp2_with fail
        refine (new_any w2).mono ?_
        rintro e w3 ⟨rfl, h3, hlt3, o3⟩
        have H3 := Lib.hid (show Ow w w3 w2.heap.size .leaf from ⟨h3, by simp [BT.bls]; exact o2.size, o2.tr o3⟩)
        clear h3 hlt3 o3 o2
        generalize w2.heap.size = tb at H3 ⊢
        clear w2
        go_wp2_with fail
        go_loopw [6] (fun iv wr => ∃ (k : Nat) (t : BT), iv = .int .i64 k ∧ k ≤ l.length ∧ Hid (Ow w wr tb t) ∧ Hid (t.ino = puts [] (l.take k))) (fun iv _ => l.length - (intOf iv).toNat)
        case atStart => exact ⟨0, .leaf, rfl, Nat.zero_le _, H3, Lib.hid rfl⟩
        case round =>
          obtain ⟨k, t, rfl, hk, HO, HT⟩ := hrel
          have ht80 : t.ino.length ≤ 80 := by
            rw [HT.out]
            have := puts_len (l.take k) []
            rw [List.length_take] at this
            simp at this
            omega
          by_cases hlt : k < l.length
          · obtain ⟨c, HX⟩ : ∃ c, Hid (l[k]? = some c) := ⟨l[k], Lib.hid (List.getElem?_eq_getElem hlt)⟩
            obtain ⟨b, off, rfl, hx⟩ := (HI.out.old HO.out.od).at_ HX.out
            obtain ⟨x0, x1, x2, x3, x4, x5⟩ := hx.held
            have CP := Lib.hid ((put_any tb t c wr HO.out.tbl (HOK.out c (List.mem_of_getElem? HX.out)) (by omega)).mono fun e w' hp => HO.out.put hp)
            have i1 : (0 : Int) ≤ (k : Int) := by omega
            have i2 : (k : Int) < (l.length : Int) := by omega
            clear hx H3
            go_wp2_with fail
            refine CP.out.mono ?_
            rintro e w4 ⟨rfl, t4, h4, e4, -, -⟩
            have HO4 := Lib.hid h4
            have HT4 := Lib.hid (show t4.ino = puts [] (l.take (k + 1)) by rw [e4, HT.out, take_snoc HX.out, puts_snoc])
            clear CP h4 e4 x0 x1 x2 x3 x4 x5
            go_wp2
            go_roundw
            case rel => exact ⟨k + 1, t4, by go_num, by omega, HO4, HT4⟩
            case measure => simp [intOf]; omega
          · obtain rfl : k = l.length := by omega
            clear HT H3
            have hls : ∀ p : Cel → Bool, (t.ino.filter p).length ≤ 80 := fun p => Nat.le_trans (List.length_filter_le _ _) ht80
            obtain ⟨T, hTT⟩ : ∃ T, T = t.ino := ⟨_, rfl⟩
            have HSA := Lib.hid (show T.filter (inSpan [] a) ++ T.filter (inSpan a []) = T by rw [hTT]; exact span_all HO.out.tbl.up a HNE.out)
            have oA := old_alloc wr (.cells #[] 31)
            have HE := Lib.hid (OwnC.empty (base := w.heap.size) (new_bk wr 31 #[]) HO.out.od.size)
            have HO1 := HO.out.old oA
            have CS1 := Lib.hid (span_any tb t [] a _ HO1.tbl (by omega))
            have HO1h := Lib.hid HO1
            clear HO1 oA
            go_wp2_with fail
            refine CS1.out.mono ?_
            rintro e w4 ⟨u1, rfl, hu1, o4⟩
            obtain ⟨A1, n1, c1, rfl⟩ := hu1.slice
            rw [← hTT] at hu1
            have hO4 := HO1h.out.old o4
            have hE4 := HE.out.old o4
            have HU1 := Lib.hid hu1
            have HO4 := Lib.hid hO4
            have HE4 := Lib.hid hE4
            have b1 := hls (inSpan [] a)
            have b2 := hls (inSpan a [])
            rw [← hTT] at b1 b2
            clear CS1 HO1h HE hu1 o4 hO4 hE4
            go_wp2_with (first
              | (at_builtin; refine wp_cels rfl (.tmp 40) (.tmp 43) rfl (W0 := w) HO4.out.od _ [] (T.filter (inSpan [] a)) rfl HE4.out _ rfl HU1.out.cels (by simp; omega) ?_; intro v8 w8 n8 o8 f8 r8; refine Hid.out ?_)
              | fail)
            have HO8 := Lib.hid (HO4.out.grown HE4.out f8 o8)
            have HN8 := Lib.hid n8
            have CS2 := Lib.hid (span_any tb t a [] w8 HO8.out.tbl (by omega))
            obtain ⟨A8, k8, c8, rfl⟩ := n8.slice
            clear HE4 HO4 HU1 f8 o8 r8 n8
            refine Lib.hid ?_
            go_wp2_with fail
            refine CS2.out.mono ?_
            rintro e w9 ⟨u2, rfl, hu2, o9⟩
            obtain ⟨A2, n2, c2, rfl⟩ := hu2.slice
            rw [← hTT] at hu2
            have HO9 := Lib.hid (HO8.out.old o9)
            have HN9 := Lib.hid (HN8.out.old o9)
            have HU2 := Lib.hid hu2
            clear CS2 HO8 HN8 hu2 o9
            go_wp2_with (first
              | (at_builtin; refine wp_cels rfl (.tmp 44) (.tmp 47) rfl (W0 := w) HO9.out.od _ ([] ++ T.filter (inSpan [] a)) (T.filter (inSpan a [])) rfl HN9.out _ rfl HU2.out.cels (by simp; omega) ?_; intro v10 w10 n10 o10 f10 r10; refine Hid.out ?_)
              | fail)
            have HO10 := Lib.hid (HO9.out.grown HN9.out f10 o10)
            rw [List.nil_append, HSA.out] at n10
            have HN10 := Lib.hid n10
            have CC := Lib.hid (cells_any tb t w10 HO10.out.tbl (by omega))
            obtain ⟨A10, k10, c10, rfl⟩ := n10.slice
            clear HO9 HN9 HU2 f10 o10 r10 n10
            refine Lib.hid ?_
            go_wp2_with fail
            refine CC.out.mono ?_
            rintro e w11 ⟨u3, rfl, hu3, o11⟩
            obtain ⟨A11, n11, c11, rfl⟩ := hu3.slice
            rw [← hTT] at hu3
            have HO11 := Lib.hid (HO10.out.old o11)
            have CE := Lib.hid (sameC_any w11 _ _ T (HN10.out.old o11).cels hu3.cels (by rw [hTT]; omega))
            clear CC HO10 HN10 hu3 o11
            go_wp2_with fail
            refine CE.out.mono ?_
            rintro e w12 ⟨rfl, o12⟩
            have HO12 := Lib.hid (HO11.out.old o12)
            have CR := Lib.hid (row_any tb t a w12 HO12.out.tbl (by omega))
            clear CE HO11 o12
            go_wp2_with fail
            refine CR.out.mono ?_
            rintro e w13 ⟨u4, rfl, hu4, o13⟩
            obtain ⟨A13, n13, c13, rfl⟩ := hu4.slice
            have HO13 := Lib.hid (HO12.out.old o13)
            have HU4 := Lib.hid hu4
            have hadd : B a ++ ⟨#[0]⟩ = B (a ++ [0]) := add_Bt a [0]
            have i7 : ¬ 9223372036854775807 < a.length + 1 := by omega
            have i8 : (9223372036854775807 < a.length + 1) = False := by simpa using i7
            have CS3 := Lib.hid (span_any tb t a (a ++ [0]) w13 HO13.out.tbl (by omega))
            clear CR HO12 hu4 o13
            go_wp2_with fail
            refine CS3.out.mono ?_
            rintro e w14 ⟨u5, rfl, hu5, o14⟩
            rw [span_row] at hu5
            obtain ⟨A14, n14, c14, rfl⟩ := hu5.slice
            have HO14 := Lib.hid (HO13.out.old o14)
            have CE2 := Lib.hid (sameC_any w14 _ _ _ (HU4.out.old o14).cels hu5.cels (Nat.le_trans (hls _) (by omega)))
            clear CS3 HO13 HU4 hu5 o14
            go_wp2_with fail
            refine CE2.out.mono ?_
            rintro e w15 ⟨rfl, o15⟩
            have o16 := HO14.out.od.tr o15
            clear CE2 HO14
            go_wp2
            go_ret
            exact ⟨rfl, o16⟩
    · go_wp2_with fail
      refine (shown_any _).mono ?_
      rintro e w2 ⟨rfl, o2⟩
      go_wp2
      go_ret
      exact ⟨rfl, o2⟩

set_option maxRecDepth 100000 in
theorem memSpans_lifted (os : Os) (started : os.Started) (H : Type) (enc : TypeId × Value → H) :
    ReturnsInHanded {} Try.checked os 5 .any (Rows.memSpansSpec.pre6 enc Try.prog Try.f5 Rows.memSpansRow.domain false) (Rows.memSpansSpec.post enc Try.prog Try.f5 false true false false) := by
  refine returnsInHanded_of_change_sized (C := Try.checked) Try.own started (by kernel_rfl) Try.func5
    (ChangeSpec.witness6 (enc := enc) (C := Try.checked) false ⟨#[], #[.slice none 0 0, .string ByteArray.empty], []⟩ 8 (by kernel_rfl) (by kernel_rfl) (by kernel_rfl) (by kernel_rfl)) ?_
  intro W base args ds gs before hval0 hW hcnd hsz0 _
  have hval : ∀ (j : Nat) t v, Try.f5.params[j]? = some t → args[j]? = some v → Value.okWide Try.prog W .any base t v := hval0
  have hW' := hW
  obtain ⟨p, q, hA0, hV, rfl, hfz, hnd⟩ := hW
  have hA : DataW.TrodAll enc Try.prog W 0 (fun _ => true) true Try.f5.params.toList args.toList ds p := hA0
  have hsz : (DataW.weightsEach Try.prog (Try.f5.params.toList ++ Rows.memSpansSpec.plain.varTypes Try.prog) (ds ++ gs)).all (· ≤ reachBytes) = true := hsz0
  rw [Try.params5] at hA hval hsz
  obtain ⟨v0, v1, d0, d1, p0, p1, rfl, rfl, rfl, h0, h1⟩ := trodAll_two hA
  obtain ⟨rfl, rfl⟩ := trodVars_none hV
  have hlt : ∀ x ∈ p0 ++ (p1), x.block < W.heap.size := fun x hx => hW'.lt x (by simpa using hx)
  have k0 := h0
  have k1 := h1
  obtain ⟨a0, o0, m0, x0⟩ := open_cels (hval 0 22 v0 rfl rfl) h0
  obtain ⟨a1, rfl, o1⟩ := open_str (hval 1 9 v1 rfl rfl) h1
  clear hA0 hval0 hsz0
  refine (law_spans v0 a0 a1 W o0 m0 x0 o1).mono fun e W' ⟨he, hb⟩ => ?_
  subst he
  refine ⟨_, rfl, _, _, _, [], p0 ++ (p1), [], hW', trodAll_mk1 (shut_bool Try.underlying4 _), ?_, rfl, hb.frame _, fun h => by cases h⟩
  have r0 := Below.trod Try.laidOut (by kernel_rfl) (of_decide_eq_true (by kernel_rfl)) k0 hb (fun x hx => hlt x (by simp [hx]))
  have r1 := Below.trod Try.laidOut (by kernel_rfl) (of_decide_eq_true (by kernel_rfl)) k1 hb (fun x hx => hlt x (by simp [hx]))
  exact trodAll_mk2 r0 r1

theorem memSpans_holds : Rows.MemSpansSaid :=
  OpenClaim.holds_of_wide 5 Try.f5 rfl rfl rfl rfl rfl rfl rfl ⟨rfl, rfl, rfl, rfl, rfl⟩ rfl rfl rfl rfl rfl (by kernel_rfl) Try.func5 (by kernel_rfl)
    (of_decide_eq_true (by kernel_rfl)) (by unfold Func.isWrapper; first | (rw [if_pos (by decide +kernel)]; kernel_rfl) | (rw [if_neg (by decide +kernel)]; exact ⟨rfl, rfl⟩))
    (fun os started H enc _ => memSpans_lifted os started H enc)
#print axioms memSpans_holds
end Go.Proofs.Ythanenblcplbhaa
