/-
  MemRows: whatever cells come in, the law answers true, and leaves all as it was. No conditions.
-/
import Derived.Test.YthanenblcplbhaaMOwn
import Derived.Test.YthanenblcplbhaaCLft
namespace Go.Proofs.Ythanenblcplbhaa
set_option maxRecDepth 100000
open Go.ChangeShapes Go.WideShapes Go.ChangeAt Go.RowKit Go.Joins Go.Deep

theorem Tbl.keep {W W' : World} {tb : Nat} {t : BT} (h : Tbl W tb t) (k : ∀ i ∈ tb :: t.bls, W'.heap[i]? = W.heap[i]?) : Tbl W' tb t :=
  ⟨h.box.imp fun _ ⟨a, b⟩ => ⟨(k tb (by simp)).trans a, b.keep fun i hi => k i (by simp [hi])⟩, h.nd, h.up, h.may⟩
/-- Cells appended to own ones: a table stays. -/
theorem Ow.grown {w W W' : World} {tb : Nat} {t : BT} {b : Nat} {v : Value} {L : List Cel} (h : Ow w W tb t) (hv : OwnC W b v L) (hg : W.grownBy W' v.ownBlock) (o : Old w W') : Ow w W' tb t := by
  refine ⟨h.tbl.keep fun i hi => ?_, h.new_, o⟩
  have hty : ∃ ty cs, Bk W i ty cs ∧ ty ≠ 31 := by
    obtain ⟨p, hb, ht⟩ := h.tbl.box
    rcases List.mem_cons.1 hi with rfl | hi
    · exact ⟨_, _, hb, by decide⟩
    · obtain ⟨cs, hc⟩ := ht.ty i hi
      exact ⟨_, _, hc, by decide⟩
  obtain ⟨ty, cs, hb, hne⟩ := hty
  refine hg.block i hb.lt fun e => ?_
  obtain ⟨-, cs', hc⟩ := hv.blk e.symm
  exact hne (hb.uniq hc)
/-- The cells of the rows that were, when k cells were looked at. -/
def upto (T : List Cel) (k : Nat) : List Cel := match k with
  | 0 => []
  | j + 1 => match T[j]? with
    | some x => T.filter fun c => decide (cmpT c.row x.row ≤ 0)
    | none => T
theorem up_rows {T : List Cel} (h : Up T) {i j : Nat} {x y : Cel} (hij : i < j) (hx : T[i]? = some x) (hy : T[j]? = some y) : cmpT x.row y.row ≤ 0 := by
  obtain ⟨h1, rfl⟩ := List.getElem?_eq_some_iff.1 hx
  obtain ⟨h2, rfl⟩ := List.getElem?_eq_some_iff.1 hy
  exact up_row (List.pairwise_iff_getElem.1 h i j h1 h2 hij)
theorem mem_at {T : List Cel} {c : Cel} (h : c ∈ T) : ∃ i : Nat, T[i]? = some c := by
  obtain ⟨i, hi, rfl⟩ := List.getElem_of_mem h
  exact ⟨i, List.getElem?_eq_getElem hi⟩
theorem cmpT_anti {s t : List UInt8} (h1 : cmpT s t ≤ 0) (h2 : cmpT t s ≤ 0) : s = t := by
  have := cmpT_neg s t
  exact cmpT_zero s t (by omega)
theorem upto_first {T : List Cel} (h : Up T) {x : Cel} (hx : T[0]? = some x) : upto T 1 = T.filter fun c => c.row == x.row := by
  show (match T[0]? with | some x => _ | none => T) = _
  rw [hx]
  refine List.filter_congr fun c hc => ?_
  obtain ⟨i, hi⟩ := mem_at hc
  have h1 : cmpT x.row c.row ≤ 0 := by
    rcases Nat.eq_zero_or_pos i with rfl | hp
    · rw [hi] at hx
      cases hx
      rw [cmpT_refl]; omega
    · exact up_rows h hp hx hi
  rw [Bool.eq_iff_iff]
  simp only [decide_eq_true_eq, beq_iff_eq]
  exact ⟨fun h2 => cmpT_anti h2 h1, fun e => by rw [e, cmpT_refl]; omega⟩
theorem upto_same {T : List Cel} {k : Nat} {x y : Cel} (hx : T[k]? = some x) (hy : T[k + 1]? = some y) (e : x.row = y.row) : upto T (k + 2) = upto T (k + 1) := by
  show (match T[k + 1]? with | some x => _ | none => T) = (match T[k]? with | some x => _ | none => T)
  rw [hx, hy]
  show (T.filter fun c => decide (cmpT c.row y.row ≤ 0)) = T.filter fun c => decide (cmpT c.row x.row ≤ 0)
  rw [e]
theorem filter_two {p q : Cel → Bool} : ∀ {L : List Cel}, (L.Pairwise fun x y => p y = true → q x = true → False) → (∀ c ∈ L, ¬ (p c = true ∧ q c = true)) → (L.filter fun c => p c || q c) = L.filter p ++ L.filter q
  | [], _, _ => rfl
  | c :: L, h, hd => by
    obtain ⟨h1, h2⟩ := List.pairwise_cons.1 h
    have ih := filter_two h2 fun d hd' => hd d (by simp [hd'])
    cases hp : p c with
    | true =>
      have hq : q c = false := by
        cases hq : q c with
        | false => rfl
        | true => exact absurd ⟨hp, hq⟩ (hd c (by simp))
      rw [List.filter_cons, if_pos (by simp [hp]), ih, List.filter_cons (p := p), if_pos hp, List.filter_cons (p := q), if_neg (by simp [hq]), List.cons_append]
    | false =>
      cases hq : q c with
      | false =>
        rw [List.filter_cons, if_neg (by simp [hp, hq]), ih, List.filter_cons (p := p), if_neg (by simp [hp]), List.filter_cons (p := q), if_neg (by simp [hq])]
      | true =>
        have e : L.filter p = [] := by
          rw [List.filter_eq_nil_iff]
          intro y hy hpy
          exact h1 y hy hpy hq
        rw [List.filter_cons, if_pos (by simp [hq]), ih, List.filter_cons (p := p), if_neg (by simp [hp]), List.filter_cons (p := q), if_pos hq, e]
        rfl
theorem upto_next {T : List Cel} (h : Up T) {k : Nat} {x y : Cel} (hx : T[k]? = some x) (hy : T[k + 1]? = some y) (e : x.row ≠ y.row) : upto T (k + 2) = upto T (k + 1) ++ T.filter fun c => c.row == y.row := by
  show (match T[k + 1]? with | some x => _ | none => T) = (match T[k]? with | some x => _ | none => T) ++ _
  rw [hx, hy]
  show (T.filter fun c => decide (cmpT c.row y.row ≤ 0)) = (T.filter fun c => decide (cmpT c.row x.row ≤ 0)) ++ _
  have hxy := up_rows h (Nat.lt_succ_self k) hx hy
  rw [← filter_two (p := fun c => decide (cmpT c.row x.row ≤ 0)) (q := fun c => c.row == y.row)]
  · refine List.filter_congr fun c hc => ?_
    obtain ⟨i, hi⟩ := mem_at hc
    rw [Bool.eq_iff_iff]
    simp only [decide_eq_true_eq, Bool.or_eq_true, beq_iff_eq]
    constructor
    · intro h1
      rcases Nat.lt_or_ge k i with hk | hk
      · rcases Nat.eq_or_lt_of_le (show k + 1 ≤ i from hk) with rfl | hk2
        · rw [hy] at hi; cases hi; exact .inr rfl
        · exact .inr (cmpT_anti h1 (up_rows h hk2 hy hi))
      · rcases Nat.eq_or_lt_of_le hk with rfl | hk2
        · rw [hx] at hi; cases hi; exact .inl (by rw [cmpT_refl]; omega)
        · exact .inl (up_rows h hk2 hi hx)
    · rintro (h1 | h1)
      · exact cmpT_le_trans h1 hxy
      · rw [h1, cmpT_refl]; omega
  · refine List.Pairwise.imp (fun {c d} hcd h1 h2 => ?_) h
    simp only [decide_eq_true_eq, beq_iff_eq] at h1 h2
    have h3 := up_row hcd
    rw [h2] at h3
    exact e (cmpT_anti hxy (cmpT_le_trans h3 h1))
  · rintro c - ⟨h1, h2⟩
    simp only [decide_eq_true_eq, beq_iff_eq] at h1 h2
    rw [h2] at h1
    exact e (cmpT_anti hxy h1)
theorem upto_all {T : List Cel} (h : Up T) : upto T T.length = T := by
  cases hT : T.length with
  | zero => rw [List.eq_nil_of_length_eq_zero hT]; rfl
  | succ j =>
    show (match T[j]? with | some x => _ | none => T) = _
    have hx : T[j]? = some T[j] := List.getElem?_eq_getElem (by omega)
    rw [hx]
    refine List.filter_eq_self.2 fun c hc => ?_
    obtain ⟨i, hi⟩ := mem_at hc
    have hlt := (List.getElem?_eq_some_iff.1 hi).1
    simp only [decide_eq_true_eq]
    rcases Nat.eq_or_lt_of_le (show i ≤ j by omega) with rfl | hk
    · rw [hx] at hi; cases hi; rw [cmpT_refl]; omega
    · exact up_rows h hk hi hx
theorem upto_len (T : List Cel) (k : Nat) : (upto T k).length ≤ T.length := by
  unfold upto
  split
  · simp
  · split
    · exact List.length_filter_le _ _
    · exact Nat.le_refl _

set_option maxHeartbeats 16000000 in
theorem law_rows (v : Value) (l : List Cel) (w : World) (h : Cels w v l) (hl : l.length ≤ maxLen) (hok : ∀ c ∈ l, c.ok) :
    Calls Try.prog 6 #[v] w fun e w' => e = .returned (.bool true) ∧ Old w w' := by
  obtain ⟨A, cap, rfl, hc⟩ := h.form
  have CB := Lib.hid (bounded_any w _ l h hl)
  have HI := Lib.hid h
  have HOK := Lib.hid hok
  clear h hl hok
  go_enter Try.func6, Try.ntmps6
  go_wp2_with fail
  refine CB.out.mono ?_
  rintro e w1' ⟨rfl, hw1⟩
  have hw1' := hw1.symm
  subst hw1'
  clear hw1 CB
  cases hbd : boundedL l with
  | false =>
    go_wp2_with fail
    refine (shown_any _).mono ?_
    rintro e w2 ⟨rfl, o2⟩
    go_wp2
    go_ret
    exact ⟨rfl, o2⟩
  | true =>
    have h80 := bounded_len hbd
    clear hbd
    go_wp2_with fail
    refine (shown_any _).mono ?_
    rintro e w2 ⟨rfl, o2⟩
    go_wp2_with fail
    refine (new_any w2).mono ?_
    rintro e w3 ⟨rfl, h3, hlt3, o3⟩
    have H3 := Lib.hid (show Ow w w3 w2.heap.size .leaf from ⟨h3, by simp [BT.bls]; exact o2.size, o2.tr o3⟩)
    clear h3 hlt3 o3 o2
    generalize w2.heap.size = tb at H3 ⊢
    clear w2
    go_wp2_with fail
    go_loopw [4] (fun iv wr => ∃ (k : Nat) (t : BT), iv = .int .i64 k ∧ k ≤ l.length ∧ Hid (Ow w wr tb t) ∧ Hid (t.ino = puts [] (l.take k))) (fun iv _ => l.length - (intOf iv).toNat)
    case atStart => exact ⟨0, .leaf, rfl, Nat.zero_le _, H3, Lib.hid rfl⟩
    case round =>
      obtain ⟨k, t, rfl, hk, HO, HT⟩ := hrel
      have ht80 : t.ino.length ≤ 80 := by
        rw [HT.out]
        have := puts_len (l.take k) []
        rw [List.length_take] at this
        simp at this
        omega
      by_cases hlt : k < l.length
      · obtain ⟨c, HX⟩ : ∃ c, Hid (l[k]? = some c) := ⟨l[k], Lib.hid (List.getElem?_eq_getElem hlt)⟩
        obtain ⟨b, off, rfl, hx⟩ := (HI.out.old HO.out.od).at_ HX.out
        obtain ⟨x0, x1, x2, x3, x4, x5⟩ := hx.held
        have CP := Lib.hid ((put_any tb t c wr HO.out.tbl (HOK.out c (List.mem_of_getElem? HX.out)) (by omega)).mono fun e w' hp => HO.out.put hp)
        have i1 : (0 : Int) ≤ (k : Int) := by omega
        have i2 : (k : Int) < (l.length : Int) := by omega
        clear hx H3
        go_wp2_with fail
        refine CP.out.mono ?_
        rintro e w4 ⟨rfl, t4, h4, e4, -, -⟩
        have HO4 := Lib.hid h4
        have HT4 := Lib.hid (show t4.ino = puts [] (l.take (k + 1)) by rw [e4, HT.out, take_snoc HX.out, puts_snoc])
        clear CP h4 e4 x0 x1 x2 x3 x4 x5
        go_wp2
        go_roundw
        case rel => exact ⟨k + 1, t4, by go_num, by omega, HO4, HT4⟩
        case measure => simp [intOf]; omega
      · obtain rfl : k = l.length := by omega
        clear HT H3
        obtain ⟨T, hTT⟩ : ∃ T, T = t.ino := ⟨_, rfl⟩
        have HUP := Lib.hid (show Up T by rw [hTT]; exact HO.out.tbl.up)
        have CC := Lib.hid (cells_any tb t wr HO.out.tbl (by omega))
        rw [← hTT] at CC ht80
        have HTT := Lib.hid hTT
        clear hTT
        go_wp2_with fail
        refine CC.out.mono ?_
        rintro e w4 ⟨u, rfl, hu, o4⟩
        have HO4 := Lib.hid (HO.out.old o4)
        obtain ⟨Au, cu, rfl, -⟩ := hu.cels.form
        have HU := Lib.hid hu
        have oA := old_alloc w4 (.cells #[] 31)
        have HE := Lib.hid (show OwnC (w4.alloc (.cells #[] 31)) w4.heap.size (.slice (some ⟨w4.heap.size, 0, none⟩) 0 0) (upto T 0) ∧ Old w4 (w4.alloc (.cells #[] 31)) from ⟨OwnC.empty (new_bk w4 31 #[]) (Nat.le_refl _), oA⟩)
        clear CC hu o4 HO oA
        go_wp2_with fail
        go_loopw [6, 7] (fun bv iv wr => ∃ (k : Nat) (av : Value), iv = .int .i64 k ∧ av = bv ∧ k ≤ T.length ∧ Hid (OwnC wr w4.heap.size av (upto T k) ∧ Old w4 wr)) (fun _ iv _ => T.length - (intOf iv).toNat)
        case atStart => exact ⟨0, _, rfl, rfl, Nat.zero_le _, HE⟩
        case round =>
          clear HE
          obtain ⟨k, av, rfl, rfl, hk, HW⟩ := hrel
          by_cases hlt : k < T.length
          · obtain ⟨y, HY⟩ : ∃ y, Hid (T[k]? = some y) := ⟨T[k], Lib.hid (List.getElem?_eq_getElem hlt)⟩
            obtain ⟨b, off, rfl, hy⟩ := (HU.out.cels.old HW.out.2).at_ HY.out
            have y0 := hy.a0
            have i1 : (0 : Int) ≤ (k : Int) := by omega
            have i2 : (k : Int) < (T.length : Int) := by omega
            clear hy
            cases k with
            | zero =>
              rw [Nat.zero_mul, Nat.add_zero] at y0
              have CR := Lib.hid (fun n => row_any tb t y.row (wr.drewN n) (HO4.out.old (HW.out.2.dn n)).tbl (by rw [← HTT.out]; omega))
              simp only [← HTT.out] at CR
              go_wp2_with fail
              go_quiet (fail)
              go_wp2_with fail
              refine (CR.out _).mono ?_
              rintro e w5 ⟨u5, rfl, hu5, o5⟩
              obtain ⟨A5, n5, c5, rfl⟩ := hu5.slice
              have HU5 := Lib.hid hu5
              have HW5 := Lib.hid (show OwnC w5 w4.heap.size av (upto T 0) ∧ Old w4 w5 from ⟨HW.out.1.old (((Old.re wr).dn _).tr o5), (HW.out.2.dn _).tr o5⟩)
              have hlen := upto_len T (0 + 1)
              have heq := Lib.hid (show upto T (0 + 1) = upto T 0 ++ _ from upto_first HUP.out HY.out)
              rw [heq.out, List.length_append] at hlen
              obtain ⟨A3, n3, c3, rfl⟩ := HW.out.1.slice
              clear CR hu5 o5 HW
              go_wp2_with (first
                | (at_builtin; refine wp_cels rfl (.tmp 56) (.tmp 63) rfl (W0 := w4) HW5.out.2 _ (upto T 0) (T.filter fun c => c.row == y.row) rfl HW5.out.1 _ rfl HU5.out.cels (by omega) ?_; intro v8 w8 n8 o8 f8 r8; refine Hid.out ?_)
                | fail)
              rw [← heq.out] at n8
              have HZ := Lib.hid (show OwnC w8 w4.heap.size v8 (upto T (0 + 1)) ∧ Old w4 w8 from ⟨n8, o8⟩)
              obtain ⟨A8, k8, c8, rfl⟩ := n8.slice
              clear n8 o8 f8 r8 HU5 HW5 hlen heq
              refine Lib.hid ?_
              go_wp2
              go_roundw
              case rel => exact ⟨0 + 1, _, by go_num, rfl, by omega, HZ⟩
              case measure => simp [intOf]; omega
            | succ j =>
              obtain ⟨x, HX⟩ : ∃ x, Hid (T[j]? = some x) := ⟨T[j], Lib.hid (List.getElem?_eq_getElem (by omega))⟩
              obtain ⟨b', off', he, hx⟩ := (HU.out.cels.old HW.out.2).at_ HX.out
              simp only [Option.some.injEq, Addr.mk.injEq, and_true] at he
              obtain ⟨rfl, rfl⟩ := he
              have x0 := hx.a0
              clear hx
              have hw1 : IntKind.i64.wrap (((j + 1 : Nat) : Int) - 1) = (j : Int) := by rw [IntKind.wrap_i64]; omega
              have i5 : (0 : Int) ≤ (j : Int) := by omega
              have i6 : (j : Int) < (T.length : Int) := by omega
              have i7 : (j : Int) + 1 < (T.length : Int) := by omega
              have i8 : (0 : Int) ≤ (j : Int) + 1 := by omega
              have i9 : ((j : Int) + 1).toNat = j + 1 := by omega
              have i10 : ¬ ((j : Int) + 1) = 0 := by omega
              have i11 : ((j : Int) + 1 == 0) = false := by rw [beq_eq_false_iff_ne]; omega
              by_cases e : x.row = y.row
              · have HZ := Lib.hid (show OwnC wr w4.heap.size av (upto T (j + 1 + 1)) ∧ Old w4 wr by rw [upto_same HX.out HY.out e]; exact HW.out)
                have hbe2 : (x.row != y.row) = false := by simp [e]
                have hbe : (x.row == y.row) = true := by simp [e]
                obtain ⟨A3, n3, c3, rfl⟩ := HW.out.1.slice
                clear HW
                go_wp2_with fail
                go_quiet (fail)
                go_wp2
                go_roundw
                case rel => exact ⟨j + 1 + 1, _, by go_num, rfl, by omega, Lib.hid ⟨HZ.out.1, HZ.out.2.dn _⟩⟩
                case measure => simp [intOf]; omega
              · have hbe2 : (x.row != y.row) = true := by simpa using e
                have hbe : (x.row == y.row) = false := by simpa using e
                have CR := Lib.hid (fun n => row_any tb t y.row (wr.drewN n) (HO4.out.old (HW.out.2.dn n)).tbl (by rw [← HTT.out]; omega))
                simp only [← HTT.out] at CR
                go_wp2_with fail
                go_quiet (fail)
                go_wp2_with fail
                refine (CR.out _).mono ?_
                rintro e w5 ⟨u5, rfl, hu5, o5⟩
                obtain ⟨A5, n5, c5, rfl⟩ := hu5.slice
                have HU5 := Lib.hid hu5
                have HW5 := Lib.hid (show OwnC w5 w4.heap.size av (upto T (j + 1)) ∧ Old w4 w5 from ⟨HW.out.1.old (((Old.re wr).dn _).tr o5), (HW.out.2.dn _).tr o5⟩)
                have hlen := upto_len T ((j + 1) + 1)
                have heq := Lib.hid (show upto T (j + 1 + 1) = upto T (j + 1) ++ _ from upto_next HUP.out HX.out HY.out e)
                rw [heq.out, List.length_append] at hlen
                obtain ⟨A3, n3, c3, rfl⟩ := HW.out.1.slice
                clear CR hu5 o5 HW
                go_wp2_with (first
                  | (at_builtin; refine wp_cels rfl (.tmp 56) (.tmp 63) rfl (W0 := w4) HW5.out.2 _ (upto T (j + 1)) (T.filter fun c => c.row == y.row) rfl HW5.out.1 _ rfl HU5.out.cels (by omega) ?_; intro v8 w8 n8 o8 f8 r8; refine Hid.out ?_)
                  | fail)
                rw [← heq.out] at n8
                have HZ := Lib.hid (show OwnC w8 w4.heap.size v8 (upto T ((j + 1) + 1)) ∧ Old w4 w8 from ⟨n8, o8⟩)
                obtain ⟨A8, k8, c8, rfl⟩ := n8.slice
                clear n8 o8 f8 r8 HU5 HW5 hlen heq
                refine Lib.hid ?_
                go_wp2
                go_roundw
                case rel => exact ⟨(j + 1) + 1, _, by go_num, rfl, by omega, HZ⟩
                case measure => simp [intOf]; omega
          · obtain rfl : k = T.length := by omega
            have hz := HW.out.1
            rw [upto_all HUP.out] at hz
            have CE := Lib.hid (sameC_any wr av _ T hz.cels (HU.out.cels.old HW.out.2) (by omega))
            have HO5 := Lib.hid (HO4.out.old HW.out.2)
            obtain ⟨A3, n3, c3, rfl⟩ := hz.slice
            clear HW hz
            go_wp2_with fail
            refine CE.out.mono ?_
            rintro e w5 ⟨rfl, o5⟩
            have HO6 := Lib.hid (HO5.out.old o5)
            have CM := Lib.hid (many_any tb t w5 HO6.out.tbl)
            rw [← HTT.out] at CM
            clear CE o5 HO5
            go_wp2_with fail
            refine CM.out.mono ?_
            rintro e w6 ⟨rfl, o6⟩
            have h6 := (HO6.out.old o6).od
            clear CM HO6 o6
            go_wp2
            go_ret
            exact ⟨rfl, h6⟩

set_option maxRecDepth 100000 in
theorem memRows_lifted (os : Os) (started : os.Started) (H : Type) (enc : TypeId × Value → H) :
    ReturnsInHanded {} Try.checked os 6 .any (Rows.memRowsSpec.pre6 enc Try.prog Try.f6 Rows.memRowsRow.domain false) (Rows.memRowsSpec.post enc Try.prog Try.f6 false true false false) := by
  refine returnsInHanded_of_change_sized (C := Try.checked) Try.own started (by kernel_rfl) Try.func6
    (ChangeSpec.witness6 (enc := enc) (C := Try.checked) false ⟨#[], #[.slice none 0 0], []⟩ 8 (by kernel_rfl) (by kernel_rfl) (by kernel_rfl) (by kernel_rfl)) ?_
  intro W base args ds gs before hval0 hW hcnd hsz0 _
  have hval : ∀ (j : Nat) t v, Try.f6.params[j]? = some t → args[j]? = some v → Value.okWide Try.prog W .any base t v := hval0
  have hW' := hW
  obtain ⟨p, q, hA0, hV, rfl, hfz, hnd⟩ := hW
  have hA : DataW.TrodAll enc Try.prog W 0 (fun _ => true) true Try.f6.params.toList args.toList ds p := hA0
  have hsz : (DataW.weightsEach Try.prog (Try.f6.params.toList ++ Rows.memRowsSpec.plain.varTypes Try.prog) (ds ++ gs)).all (· ≤ reachBytes) = true := hsz0
  rw [Try.params6] at hA hval hsz
  obtain ⟨v0, d0, rfl, rfl, h0⟩ := trodAll_one hA
  obtain ⟨rfl, rfl⟩ := trodVars_none hV
  have hlt : ∀ x ∈ p, x.block < W.heap.size := fun x hx => hW'.lt x (by simpa using hx)
  have k0 := h0
  obtain ⟨a0, o0, m0, x0⟩ := open_cels (hval 0 22 v0 rfl rfl) h0
  clear hA0 hval0 hsz0
  refine (law_rows v0 a0 W o0 m0 x0).mono fun e W' ⟨he, hb⟩ => ?_
  subst he
  refine ⟨_, rfl, _, _, _, [], p, [], hW', trodAll_mk1 (shut_bool Try.underlying4 _), ?_, rfl, hb.frame _, fun h => by cases h⟩
  have r0 := Below.trod Try.laidOut (by kernel_rfl) (of_decide_eq_true (by kernel_rfl)) k0 hb (fun x hx => hlt x (by simp [hx]))
  exact trodAll_mk1 r0

theorem memRows_holds : Rows.MemRowsSaid :=
  OpenClaim.holds_of_wide 6 Try.f6 rfl rfl rfl rfl rfl rfl rfl ⟨rfl, rfl, rfl, rfl, rfl⟩ rfl rfl rfl rfl rfl (by kernel_rfl) Try.func6 (by kernel_rfl)
    (of_decide_eq_true (by kernel_rfl)) (by unfold Func.isWrapper; first | (rw [if_pos (by decide +kernel)]; kernel_rfl) | (rw [if_neg (by decide +kernel)]; exact ⟨rfl, rfl⟩))
    (fun os started H enc _ => memRows_lifted os started H enc)
#print axioms memRows_holds
end Go.Proofs.Ythanenblcplbhaa
