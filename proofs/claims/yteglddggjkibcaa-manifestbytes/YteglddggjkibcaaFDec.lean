/-
  Decode of the code. Conditions: lengths as written.
-/
import Derived.Test.YteglddggjkibcaaFStr
namespace Go.Proofs.Yteglddggjkibcaa
open Go.RowKit Go.Shelf

theorem own_other {w w' : World} {base base' : Nat} {t t' : TypeId} {sz sz' n n' : Nat} {v v' : Value} {xs xs' : List Value} (h : w.ownsRow base t sz v n xs) (h' : w.ownsRow base' t' sz' v' n' xs') (hne : t ≠ t') (hg : w.grownBy w' v'.ownBlock) : w'.ownsRow base t sz v n xs := by
  refine ⟨h.1, ?_⟩
  rcases h.2 with h1 | ⟨gg, cap, cur, hv, hb, hgg, rest⟩
  · exact .inl h1
  · refine .inr ⟨gg, cap, cur, hv, hb, (hg.block gg (Array.getElem?_eq_some_iff.1 hgg).1 ?_).trans hgg, rest⟩
    intro e
    rcases h'.2 with ⟨rfl, _⟩ | ⟨g2, cap2, cur2, rfl, _, hg2, _⟩
    · cases e
    · have e2 : gg = g2 := by simpa [Value.ownBlock] using e
      subst e2
      rw [hgg] at hg2
      injection hg2 with hg2
      injection hg2 with _ e3 _
      exact hne e3
/-- While an edit is read: r the answer's block, g the reader's, h the edit's. -/
structure LA (T F : TypeId) (w wr : World) (r g h base : Nat) (s : List UInt8) (va vd : Value) (l : List Itm) (d : List (List UInt8)) (n1 n2 : Nat) : Prop where
  old : Old w wr
  res : Bk wr r T #[.slice none 0 0, .slice none 0 0, .int .u64 0, .int .u64 0]
  rd : Rd wr g s
  box : Bk wr h T #[va, vd, .int .u64 (n1 : Int), .int .u64 (n2 : Int)]
  own : OwnE F wr base va l
  owns : OwnS wr base vd d
  size : base ≤ wr.heap.size
  lt : w.heap.size ≤ r ∧ r < g ∧ g < h ∧ h < base
section
variable {T F : TypeId} {w wr w2 w3 : World} {r g h base : Nat} {s s' : List UInt8} {va vd : Value} {l l' : List Itm} {d d' : List (List UInt8)} {n1 n2 : Nat}
theorem LA.call (a : LA T F w wr r g h base s va vd l d n1 n2) (k : But g wr w2) (hr : Rd w2 g s') : LA T F w w2 r g h base s' va vd l d n1 n2 := by
  obtain ⟨h1, h2, h3, h4⟩ := a.lt
  exact ⟨old_but a.old k (by omega), a.res.but k (by omega), hr, a.box.but k (by omega), own_stays a.own (but_stays k (by omega)), own_stays a.owns (but_stays k (by omega)), Nat.le_trans a.size k.size, a.lt⟩
theorem LA.al (a : LA T F w wr r g h base s va vd l d n1 n2) (o : Obj) : LA T F w (wr.alloc o) r g h base s va vd l d n1 n2 :=
  ⟨a.old.al o, a.res.alloc o, a.rd.alloc o, a.box.alloc o, a.own.old (old_alloc _ _), own_stays a.owns (alloc_stays _ _), Nat.le_trans a.size (old_alloc wr o).size, a.lt⟩
theorem LA.dr (a : LA T F w wr r g h base s va vd l d n1 n2) : LA T F w wr.drew r g h base s va vd l d n1 n2 :=
  ⟨a.old.dr, a.res, a.rd, a.box, a.own.drew, own_stays a.owns (fun _ _ _ h => h), a.size, a.lt⟩
theorem LA.growF (a : LA T F w wr r g h base s va vd l d n1 n2) (hF : F ≠ 9) {va' : Value} (n : OwnE F w2 base va' l') (gr : wr.grownBy w2 va.ownBlock) : LA T F w (w2.setCell ⟨h, 0, none⟩ va') r g h base s va' vd l' d n1 n2 := by
  obtain ⟨h1, h2, h3, h4⟩ := a.lt
  have b := a.box.row a.own gr (by omega)
  refine ⟨(a.old.row a.own gr (by omega)).st (by simp; omega) _, (a.res.row a.own gr (by omega)).far (by simp; omega) _, (a.rd.row a.own gr (by omega)).far (by simp; omega) _, by simpa using b.set_ 0 va', own_stays n (set_stays _ _ _ (by simpa using h4)), own_stays (own_other a.owns a.own (fun e => hF e.symm) gr) (set_stays _ _ _ (by simpa using h4)), ?_, a.lt⟩
  have := a.size
  have := gr.size
  simp [World.setCell]
  omega
theorem LA.growS (a : LA T F w wr r g h base s va vd l d n1 n2) (hF : F ≠ 9) {vd' : Value} (n : OwnS w2 base vd' d') (gr : wr.grownBy w2 vd.ownBlock) : LA T F w (w2.setCell ⟨h, 1, none⟩ vd') r g h base s va vd' l d' n1 n2 := by
  obtain ⟨h1, h2, h3, h4⟩ := a.lt
  have b := a.box.row a.owns gr (by omega)
  refine ⟨(a.old.row a.owns gr (by omega)).st (by simp; omega) _, (a.res.row a.owns gr (by omega)).far (by simp; omega) _, (a.rd.row a.owns gr (by omega)).far (by simp; omega) _, by simpa using b.set_ 1 vd', own_stays (own_other a.own a.owns hF gr) (set_stays _ _ _ (by simpa using h4)), own_stays n (set_stays _ _ _ (by simpa using h4)), ?_, a.lt⟩
  have := a.size
  have := gr.size
  simp [World.setCell]
  omega
end
theorem enc_cases (e : Ed) : encF e = (1, []) ∨ encF e = (71, []) ∨ encF e = (0, encB e) := by
  unfold encF
  split
  · exact .inl rfl
  · split
    · exact .inr (.inl rfl)
    · exact .inr (.inr rfl)
theorem set4_bk {w : World} {r : Nat} {T : TypeId} {a0 a1 a2 a3 : Value} (h : Bk w r T #[a0, a1, a2, a3]) (u0 u1 u2 u3 : Value) : Bk ((((w.setCell ⟨r, 0, none⟩ u0).setCell ⟨r, 1, none⟩ u1).setCell ⟨r, 2, none⟩ u2).setCell ⟨r, 3, none⟩ u3) r T #[u0, u1, u2, u3] := by
  simpa using (((h.set_ 0 u0).set_ 1 u1).set_ 2 u2).set_ 3 u3
theorem set4_old {w0 w : World} {r : Nat} (h : Old w0 w) (hr : w0.heap.size ≤ r) (u0 u1 u2 u3 : Value) : Old w0 ((((w.setCell ⟨r, 0, none⟩ u0).setCell ⟨r, 1, none⟩ u1).setCell ⟨r, 2, none⟩ u2).setCell ⟨r, 3, none⟩ u3) :=
  (((h.st (p := ⟨r, 0, none⟩) hr u0).st (p := ⟨r, 1, none⟩) hr u1).st (p := ⟨r, 2, none⟩) hr u2).st (p := ⟨r, 3, none⟩) hr u3
theorem set4_stays (w : World) {r base : Nat} (hr : r < base) (u0 u1 u2 u3 : Value) : ∀ i o, base ≤ i → w.heap[i]? = some o → ((((w.setCell ⟨r, 0, none⟩ u0).setCell ⟨r, 1, none⟩ u1).setCell ⟨r, 2, none⟩ u2).setCell ⟨r, 3, none⟩ u3).heap[i]? = some o := fun i o hi ho =>
  set_stays _ ⟨r, 3, none⟩ _ hr i o hi (set_stays _ ⟨r, 2, none⟩ _ hr i o hi (set_stays _ ⟨r, 1, none⟩ _ hr i o hi (set_stays _ ⟨r, 0, none⟩ _ hr i o hi ho)))
theorem dec_no {t : List UInt8} (h : encF (rdE t) ≠ (0, t)) : decF t = (50, Ed0) := if_neg h
theorem dec_yes {t : List UInt8} (h : encF (rdE t) = (0, t)) : decF t = (0, rdE t) := if_pos h
theorem rd_eq (t : List UInt8) : ∃ n1 s1 n2 s2 k3 s3 s4 m s5, Hid (n1 = lowV (t.take 8) ∧ s1 = t.drop 8 ∧ n2 = lowV (s1.take 8) ∧ s2 = s1.drop 8 ∧ k3 = lowV (s2.take 1) ∧ s3 = s2.drop 1 ∧ s4 = (rdFs k3 s3).2 ∧ m = lowV (s4.take 1) ∧ s5 = s4.drop 1 ∧ rdE t = ⟨(rdFs k3 s3).1, (rdTs m s5).1, n1, n2⟩) :=
  ⟨_, _, _, _, _, _, _, _, _, Lib.hid ⟨rfl, rfl, rfl, rfl, rfl, rfl, rfl, rfl, rfl, rfl⟩⟩
set_option maxRecDepth 10000 in
set_option maxHeartbeats 8000000 in
theorem decode_any (t : List UInt8) (hl : t.length ≤ 1000000) (w : World) : Calls Try.prog 22 #[.string (B t)] w (PostD w (decF t)) := by
  obtain ⟨n1, s1, n2, s2, k3, s3, s4, m, s5, HX⟩ := rd_eq t
  have l1 : s1.length ≤ 1000000 := by rw [HX.out.2.1, List.length_drop]; omega
  have l2 : s2.length ≤ 1000000 := by rw [HX.out.2.2.2.1, List.length_drop]; omega
  have l3 : s3.length ≤ 1000000 := by rw [HX.out.2.2.2.2.2.1, List.length_drop]; omega
  have l4 : s4.length ≤ 1000000 := by rw [HX.out.2.2.2.2.2.2.1]; have := (rdFs_len k3 s3).2; omega
  have l5 : s5.length ≤ 1000000 := by rw [HX.out.2.2.2.2.2.2.2.2.1, List.length_drop]; omega
  have b3 : k3 ≤ 255 := by rw [HX.out.2.2.2.2.1]; exact lowV_take1 s2
  have b4 : m ≤ 255 := by rw [HX.out.2.2.2.2.2.2.2.1]; exact lowV_take1 s4
  have b1 : n1 < 18446744073709551616 := by rw [HX.out.1]; exact lowV_take8 t
  have b2 : n2 < 18446744073709551616 := by rw [HX.out.2.2.1]; exact lowV_take8 s1
  have C1 := Lib.hid fun (g : Nat) (W : World) (h : Rd W g t) => rnumber_any g t 8 W h (by omega) (by omega)
  have C2 := Lib.hid fun (g : Nat) (W : World) (h : Rd W g s1) => rnumber_any g s1 8 W h (by omega) (by omega)
  have C3 := Lib.hid fun (g : Nat) (W : World) (h : Rd W g s2) => rnumber_any g s2 1 W h (by omega) (by omega)
  have C4 := Lib.hid fun (g : Nat) (W : World) (h : Rd W g s4) => rnumber_any g s4 1 W h (by omega) (by omega)
  rw [← HX.out.1, ← HX.out.2.1] at C1
  rw [← HX.out.2.2.1, ← HX.out.2.2.2.1] at C2
  rw [← HX.out.2.2.2.2.1, ← HX.out.2.2.2.2.2.1] at C3
  rw [← HX.out.2.2.2.2.2.2.2.1, ← HX.out.2.2.2.2.2.2.2.2.1] at C4
  go_enter Try.func22, Try.ntmps22
  go_wp2_with fail
  have BR := (new_bk w 34 #[.slice none 0 0, .slice none 0 0, .int .u64 0, .int .u64 0]).alloc (.cells #[.string (B t)] 91)
  have RG : Rd _ (w.heap.size + 1) t := new_bk1 w (.cells #[.slice none 0 0, .slice none 0 0, .int .u64 0, .int .u64 0] 34) 91 #[.string (B t)]
  have O1 := ((Old.re w).al (.cells #[.slice none 0 0, .slice none 0 0, .int .u64 0, .int .u64 0] 34)).al (.cells #[.string (B t)] 91)
  generalize (w.alloc (.cells #[.slice none 0 0, .slice none 0 0, .int .u64 0, .int .u64 0] 34)).alloc (.cells #[.string (B t)] 91) = w1 at *
  obtain ⟨r, hr⟩ : ∃ r, r = w.heap.size := ⟨_, rfl⟩
  have HZ := Lib.hid (show w.heap.size ≤ r by omega)
  rw [← hr] at BR RG ⊢
  clear hr
  refine (C1.out _ w1 RG).mono ?_
  rintro e w2 ⟨rfl, R2, k2⟩
  have BR := BR.but k2 (by omega)
  have O2 := old_but O1 k2 (by have := HZ.out; omega)
  clear O1 k2 RG C1
  go_wp2_with fail
  refine (C2.out _ w2 R2).mono ?_
  rintro e w3 ⟨rfl, R3, k3'⟩
  have BR := Lib.hid (BR.but k3' (by omega))
  have O3 := Lib.hid (old_but O2 k3' (by have := HZ.out; omega))
  have R3 := Lib.hid R3
  clear O2 k3' R2 C2
  go_wp2_with fail
  have LL := Lib.hid (show LA 34 60 w (w3.alloc (.cells #[.slice none 0 0, .slice none 0 0, .int .u64 (n1 : Int), .int .u64 (n2 : Int)] 34)) r (r + 1) w3.heap.size (w3.heap.size + 1) s2 (.slice none 0 0) (.slice none 0 0) [] [] n1 n2 from
    ⟨O3.out.al _, BR.out.alloc _, R3.out.alloc _, new_bk _ _ _, OwnE.nil _ _ _, OwnS.nil _ _, by simp, HZ.out, by omega, R3.out.lt, by omega⟩)
  generalize w3.alloc (.cells #[.slice none 0 0, .slice none 0 0, .int .u64 (n1 : Int), .int .u64 (n2 : Int)] 34) = w4 at *
  clear O3 BR R3
  generalize w3.heap.size = h at *
  refine (C3.out _ w4 LL.out.rd).mono ?_
  rintro e w5 ⟨rfl, R5, k5⟩
  have LL := Lib.hid (LL.out.call k5 R5)
  clear k5 R5 C3
  go_wp2_with fail
  go_loopw [14] (fun i wr => ∃ k : Nat, k ≤ k3 ∧ i = .int .u64 k ∧ Hid (∃ va, LA 34 60 w wr r (r + 1) h (h + 1) (rdFs k s3).2 va (.slice none 0 0) (rdFs k s3).1 [] n1 n2)) (fun i _ => k3 - (intOf i).toNat)
  case atStart => exact ⟨0, Nat.zero_le _, rfl, Lib.hid ⟨_, LL.out⟩⟩
  case round =>
    clear LL
    obtain ⟨k, hk, rfl, HL⟩ := hrel
    by_cases hlt : k < k3
    · have hsk : (rdFs k s3).2.length ≤ 1000000 := by have := (rdFs_len k s3).2; omega
      have hlk : (rdFs k s3).1.length ≤ 255 := by have := (rdFs_len k s3).1; omega
      have HS := Lib.hid (show rdFs (k + 1) s3 = ((rdFs k s3).1 ++ [(rdF (rdFs k s3).2).1], (rdF (rdFs k s3).2).2) from rfl)
      generalize (rdFs k s3).1 = lk at *
      generalize (rdFs k s3).2 = sk at *
      obtain ⟨va, HV⟩ : ∃ va, Hid (LA 34 60 w wr r (r + 1) h (h + 1) sk va (.slice none 0 0) lk [] n1 n2) := by
        obtain ⟨va, hv⟩ := HL.out
        exact ⟨va, Lib.hid hv⟩
      clear HL
      obtain ⟨A5, c5, rfl, -⟩ := HV.out.own.form
      have c0 : wr.cell? ⟨h, 0, none⟩ = some (.slice A5 lk.length c5) := HV.out.box.cell 0
      have CF := Lib.hid (rfile_any (r + 1) sk wr.drew HV.out.dr.rd (by omega))
      generalize (rdF sk).1 = x at *
      generalize (rdF sk).2 = sk2 at *
      go_wp2_with fail
      go_region_law (first
          | (refine step_itsB rfl _ rfl (.tmp 17) (.tmp 19) 24 60 Try.underlying24 Try.infoItem rfl (base := h + 1) ((HV6.out.al _).size) (.slice A5 lk.length c5) lk [x] rfl ((HV6.out.al _).own) (.slice (some ⟨w6.heap.size, 0, none⟩) 1 1) rfl (one_its (new_bk _ _ _)) (by simp; omega) ?_; intro v7 w7 n7 gr7; obtain ⟨A7, d7, rfl, -⟩ := n7.form; have B7 := (HV6.out.al (.cells (icells x) 60)).box.row (HV6.out.al (.cells (icells x) 60)).own gr7 (by omega); have c7 := B7.cell 0; have f7 := B7.fr 0)
          | (go_simp; go_at_call 52; refine CF.out.mono ?_; rintro e w6 ⟨rfl, R6, k6⟩; have HV6 := Lib.hid (HV.out.dr.call k6 R6); have c6 : w6.cell? ⟨h, 0, none⟩ = some (.slice A5 lk.length c5) := HV6.out.box.cell 0; have c6a : (w6.alloc (.cells #[.int .i64 x.lev, .string (B x.name), .string (B x.low), .string (B x.high), .int .i64 x.many] 60)).cell? ⟨h, 0, none⟩ = some (.slice A5 lk.length c5) := (HV6.out.al _).box.cell 0; clear k6 R6))
      all_goals
        have HW := (HV6.out.al (.cells (icells x) 60)).growF (by decide) n7 gr7
        have hlen : (lk ++ [x]).length = lk.length + 1 := by simp
        rw [hlen] at HW
        have HN : Hid (∃ va, LA 34 60 w (w7.setCell ⟨h, 0, none⟩ (.slice A7 (lk.length + 1) d7)) r (r + 1) h (h + 1) (rdFs (k + 1) s3).2 va (.slice none 0 0) (rdFs (k + 1) s3).1 [] n1 n2) := Lib.hid ⟨_, by rw [HS.out]; exact HW⟩
        generalize w7.setCell ⟨h, 0, none⟩ (.slice A7 (lk.length + 1) d7) = w8 at *
        clear HW hlen n7 gr7 B7 c7 f7 c6 c6a c0 HV HV6 CF HS hlk hsk
        go_wp2
        go_roundw
        case rel => exact ⟨k + 1, by omega, by go_num, HN⟩
        case measure => simp [intOf]; omega
    · obtain rfl : k = k3 := by omega
      obtain ⟨va, HV⟩ : ∃ va, Hid (LA 34 60 w wr r (r + 1) h (h + 1) s4 va (.slice none 0 0) (rdFs k s3).1 [] n1 n2) := by
        obtain ⟨va, hv⟩ := HL.out
        rw [HX.out.2.2.2.2.2.2.1]
        exact ⟨va, Lib.hid hv⟩
      clear HL
      go_wp2_with fail
      refine (C4.out _ wr HV.out.rd).mono ?_
      rintro e w9 ⟨rfl, R9, k9⟩
      have LL := Lib.hid (HV.out.call k9 R9)
      clear k9 R9 C4 HV
      go_wp2_with fail
      go_loopw [24] (fun i wr => ∃ j : Nat, j ≤ m ∧ i = .int .u64 j ∧ Hid (∃ vd, LA 34 60 w wr r (r + 1) h (h + 1) (rdTs j s5).2 va vd (rdFs k s3).1 (rdTs j s5).1 n1 n2)) (fun i _ => m - (intOf i).toNat)
      case atStart => exact ⟨0, Nat.zero_le _, rfl, Lib.hid ⟨_, LL.out⟩⟩
      case round =>
        clear LL
        obtain ⟨j, hj, rfl, HL⟩ := hrel
        by_cases hlt2 : j < m
        · have hsk : (rdTs j s5).2.length ≤ 1000000 := by have := (rdTs_len j s5).2; omega
          have hlk : (rdTs j s5).1.length ≤ 255 := by have := (rdTs_len j s5).1; omega
          have HS := Lib.hid (show rdTs (j + 1) s5 = ((rdTs j s5).1 ++ [(rdT (rdTs j s5).2).1], (rdT (rdTs j s5).2).2) from rfl)
          have hml : ∀ t ∈ (rdTs j s5).1, t.length ≤ maxLen := fun t ht => by have := rdTs_small j s5 t ht; unfold maxLen; omega
          generalize (rdTs j s5).1 = lk at *
          generalize (rdTs j s5).2 = sk at *
          obtain ⟨vd, HV⟩ : ∃ vd, Hid (LA 34 60 w wr r (r + 1) h (h + 1) sk va vd (rdFs k s3).1 lk n1 n2) := by
            obtain ⟨vd, hv⟩ := HL.out
            exact ⟨vd, Lib.hid hv⟩
          clear HL
          obtain ⟨A5, c5, rfl, -⟩ := HV.out.owns.strs hml
          have c0 : wr.cell? ⟨h, 1, none⟩ = some (.slice A5 lk.length c5) := HV.out.box.cell 1
          have CF := Lib.hid (rtext_any (r + 1) sk wr.drew HV.out.dr.rd (by omega))
          generalize hx : (rdT sk).1 = x at *
          have hxl : x.length ≤ maxLen := by rw [← hx]; have := rdT_got sk; unfold maxLen; omega
          clear hx
          generalize (rdT sk).2 = sk2 at *
          go_wp2_with fail
          go_region_law (first
              | (refine step_strB rfl _ rfl (.tmp 27) (.tmp 29) rfl (base := h + 1) ((HV6.out.al _).size) (.slice A5 lk.length c5) lk rfl ((HV6.out.al _).owns) x w6.heap.size rfl (new_bk _ _ _) (by omega) ?_; intro v7 w7 n7 gr7; obtain ⟨A7, d7, rfl, -⟩ := n7.strs (fun t ht => (List.mem_append.1 ht).elim (hml t) (fun h => by rw [List.mem_singleton.1 h]; exact hxl)); have B7 := (HV6.out.al (.cells #[.string (B x)] 9)).box.row (HV6.out.al (.cells #[.string (B x)] 9)).owns gr7 (by omega); have c7 := B7.cell 1; have f7 := B7.fr 1)
              | (go_simp; go_at_call 53; refine CF.out.mono ?_; rintro e w6 ⟨rfl, R6, k6⟩; have HV6 := Lib.hid (HV.out.dr.call k6 R6); have c6 : w6.cell? ⟨h, 1, none⟩ = some (.slice A5 lk.length c5) := HV6.out.box.cell 1; have c6a : (w6.alloc (.cells #[.string (B x)] 9)).cell? ⟨h, 1, none⟩ = some (.slice A5 lk.length c5) := (HV6.out.al _).box.cell 1; clear k6 R6))
          all_goals
            have HW := (HV6.out.al (.cells #[.string (B x)] 9)).growS (by decide) n7 gr7
            have hlen : (lk ++ [x]).length = lk.length + 1 := by simp
            rw [hlen] at HW
            have HN : Hid (∃ vd, LA 34 60 w (w7.setCell ⟨h, 1, none⟩ (.slice A7 (lk.length + 1) d7)) r (r + 1) h (h + 1) (rdTs (j + 1) s5).2 va vd (rdFs k s3).1 (rdTs (j + 1) s5).1 n1 n2) := Lib.hid ⟨_, by rw [HS.out]; exact HW⟩
            generalize w7.setCell ⟨h, 1, none⟩ (.slice A7 (lk.length + 1) d7) = w8 at *
            clear HW hlen n7 gr7 B7 c7 f7 c6 c6a c0 HV HV6 CF HS hlk hsk hml hxl
            go_wp2
            go_roundw
            case rel => exact ⟨j + 1, by omega, by go_num, HN⟩
            case measure => simp [intOf]; omega
        · obtain rfl : j = m := by omega
          obtain ⟨vd, HV⟩ : ∃ vd, Hid (LA 34 60 w wr r (r + 1) h (h + 1) (rdTs j s5).2 va vd (rdFs k s3).1 (rdTs j s5).1 n1 n2) := by
            obtain ⟨vd, hv⟩ := HL.out
            exact ⟨vd, Lib.hid hv⟩
          clear HL
          have HE := Lib.hid HX.out.2.2.2.2.2.2.2.2.2
          have hfl : (rdFs k s3).1.length ≤ 255 := by have := (rdFs_len k s3).1; omega
          have hdl : (rdTs j s5).1.length ≤ 255 := by have := (rdTs_len j s5).1; omega
          have hds : ∀ t ∈ (rdTs j s5).1, t.length ≤ maxLen := fun t ht => by have := rdTs_small j s5 t ht; unfold maxLen; omega
          clear HX
          generalize (rdFs k s3).1 = FA at *
          generalize (rdTs j s5).1 = DA at *
          generalize (rdTs j s5).2 = sz at *
          obtain ⟨Ad, cd, rfl, HD⟩ := HV.out.owns.strs hds
          obtain ⟨Aa, ca, rfl, -⟩ := HV.out.own.form
          have HD := Lib.hid HD
          have c0 : wr.cell? ⟨h, 0, none⟩ = some (.slice Aa FA.length ca) := HV.out.box.cell 0
          have c1 : wr.cell? ⟨h, 1, none⟩ = some (.slice Ad DA.length cd) := HV.out.box.cell 1
          have c2 : wr.cell? ⟨h, 2, none⟩ = some (.int .u64 (n1 : Int)) := HV.out.box.cell 2
          have c3 : wr.cell? ⟨h, 3, none⟩ = some (.int .u64 (n2 : Int)) := HV.out.box.cell 3
          go_wp2_with fail
          refine (encode_any wr ⟨FA, DA, n1, n2⟩ (.slice Aa FA.length ca) Ad cd HV.out.own.its HD.out (by simp; omega) (by simp; omega) b1 b2).mono ?_
          rintro e w10 ⟨rfl, o10⟩
          have O10 := Lib.hid (HV.out.old.tr o10)
          have HO10 := Lib.hid (HV.out.own.old o10)
          have HD10 := Lib.hid (own_stays HV.out.owns (fun i ob _ hi => (o10.block i (Array.getElem?_eq_some_iff.1 hi).1).trans hi))
          have HDS := Lib.hid hds
          have B10 := HV.out.res.old o10
          have X10 := HV.out.box.old o10
          have HLT := Lib.hid HV.out.lt
          clear c0 c1 c2 c3 HV HD o10 hds
          have c0 : w10.cell? ⟨h, 0, none⟩ = some (.slice Aa FA.length ca) := X10.cell 0
          have c1 : w10.cell? ⟨h, 1, none⟩ = some (.slice Ad DA.length cd) := X10.cell 1
          have c2 : w10.cell? ⟨h, 2, none⟩ = some (.int .u64 (n1 : Int)) := X10.cell 2
          have c3 : w10.cell? ⟨h, 3, none⟩ = some (.int .u64 (n2 : Int)) := X10.cell 3
          have d0 : w10.cell? ⟨r, 0, none⟩ = some (.slice none 0 0) := B10.cell 0
          have d1 : w10.cell? ⟨r, 1, none⟩ = some (.slice none 0 0) := B10.cell 1
          have d2 : w10.cell? ⟨r, 2, none⟩ = some (.int .u64 0) := B10.cell 2
          have d3 : w10.cell? ⟨r, 3, none⟩ = some (.int .u64 0) := B10.cell 3
          have f0 : w10.frozen? ⟨r, 0, none⟩ = false := B10.fr 0
          have f1 : w10.frozen? ⟨r, 1, none⟩ = false := B10.fr 1
          have f2 : w10.frozen? ⟨r, 2, none⟩ = false := B10.fr 2
          have f3 : w10.frozen? ⟨r, 3, none⟩ = false := B10.fr 3
          have B10 := Lib.hid B10
          clear X10 LL
          have hno : encF (rdE t) ≠ (0, t) → Hid (decF t = (50, Ed0)) := fun h => Lib.hid (dec_no h)
          have hyes : encF (rdE t) = (0, t) → Hid (decF t = (0, rdE t)) := fun h => Lib.hid (dec_yes h)
          rw [HE.out] at hno hyes
          rcases enc_cases ⟨FA, DA, n1, n2⟩ with hE | hE | hE
          · have HR := hno (by rw [hE]; simp)
            rw [hE]
            clear hno hyes hE HO10 HD10
            go_wp2
            have Z := set4_bk B10.out (.slice none 0 0) (.slice none 0 0) (.int .u64 0) (.int .u64 0)
            have ZO := set4_old O10.out HLT.out.1 (.slice none 0 0) (.slice none 0 0) (.int .u64 0) (.int .u64 0)
            have y0 := Z.cell 0
            have y1 := Z.cell 1
            have y2 := Z.cell 2
            have y3 := Z.cell 3
            refine bodyPost_ret (v := .tuple #[.agg #[.slice none 0 0, .slice none 0 0, .int .u64 0, .int .u64 0], .int .i64 50]) (by simp [results, Try.results22, go_sem, y0, y1, y2, y3]) rfl ?_
            rw [HR.out]
            exact ⟨_, none, 0, rfl, ZO, Itms.nil _, Strs.none _⟩
          · have HR := hno (by rw [hE]; simp)
            rw [hE]
            clear hno hyes hE HO10 HD10
            go_wp2
            have Z := set4_bk B10.out (.slice none 0 0) (.slice none 0 0) (.int .u64 0) (.int .u64 0)
            have ZO := set4_old O10.out HLT.out.1 (.slice none 0 0) (.slice none 0 0) (.int .u64 0) (.int .u64 0)
            have y0 := Z.cell 0
            have y1 := Z.cell 1
            have y2 := Z.cell 2
            have y3 := Z.cell 3
            refine bodyPost_ret (v := .tuple #[.agg #[.slice none 0 0, .slice none 0 0, .int .u64 0, .int .u64 0], .int .i64 50]) (by simp [results, Try.results22, go_sem, y0, y1, y2, y3]) rfl ?_
            rw [HR.out]
            exact ⟨_, none, 0, rfl, ZO, Itms.nil _, Strs.none _⟩
          · generalize encB ⟨FA, DA, n1, n2⟩ = q at *
            rw [hE] at hno hyes ⊢
            clear hE
            by_cases hq : q = t
            case neg =>
              have HR := hno (by simpa using hq)
              have hq2 : (q == t) = false := by simpa using hq
              clear hno hyes HO10 HD10
              go_wp2
              have Z := set4_bk B10.out (.slice none 0 0) (.slice none 0 0) (.int .u64 0) (.int .u64 0)
              have ZO := set4_old O10.out HLT.out.1 (.slice none 0 0) (.slice none 0 0) (.int .u64 0) (.int .u64 0)
              have y0 := Z.cell 0
              have y1 := Z.cell 1
              have y2 := Z.cell 2
              have y3 := Z.cell 3
              refine bodyPost_ret (v := .tuple #[.agg #[.slice none 0 0, .slice none 0 0, .int .u64 0, .int .u64 0], .int .i64 50]) (by simp [results, Try.results22, go_sem, y0, y1, y2, y3]) rfl ?_
              rw [HR.out]
              exact ⟨_, none, 0, rfl, ZO, Itms.nil _, Strs.none _⟩
            case pos =>
              subst hq
              have HR := hyes rfl
              clear hno hyes
              go_wp2
              have Z := set4_bk B10.out (.slice Aa FA.length ca) (.slice Ad DA.length cd) (.int .u64 (n1 : Int)) (.int .u64 (n2 : Int))
              have ZO := set4_old O10.out HLT.out.1 (.slice Aa FA.length ca) (.slice Ad DA.length cd) (.int .u64 (n1 : Int)) (.int .u64 (n2 : Int))
              have ZF := own_stays HO10.out (set4_stays w10 (r := r) (by have := HLT.out; omega) (.slice Aa FA.length ca) (.slice Ad DA.length cd) (.int .u64 (n1 : Int)) (.int .u64 (n2 : Int)))
              have ZD := own_stays HD10.out (set4_stays w10 (r := r) (by have := HLT.out; omega) (.slice Aa FA.length ca) (.slice Ad DA.length cd) (.int .u64 (n1 : Int)) (.int .u64 (n2 : Int)))
              obtain ⟨A9, c9, e9, ZS⟩ := OwnS.strs ZD HDS.out
              injection e9 with ea eb ec
              subst ea ec
              have y0 := Z.cell 0
              have y1 := Z.cell 1
              have y2 := Z.cell 2
              have y3 := Z.cell 3
              refine bodyPost_ret (v := .tuple #[.agg #[.slice Aa FA.length ca, .slice Ad DA.length cd, .int .u64 (n1 : Int), .int .u64 (n2 : Int)], .int .i64 0]) (by simp [results, Try.results22, go_sem, y0, y1, y2, y3]) rfl ?_
              rw [HR.out]
              exact ⟨_, _, _, rfl, ZO, OwnE.its ZF, ZS⟩
end Go.Proofs.Yteglddggjkibcaa
