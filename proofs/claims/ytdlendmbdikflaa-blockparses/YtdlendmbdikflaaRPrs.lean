/-
  The reference's Parse answers what the code's does. Condition: the text has at most 100000 bytes.
-/
import Derived.Test.YtdlendmbdikflaaStep
namespace Go.Proofs.Ytdlendmbdikflaa
open Go.RowKit

theorem B_inj {a b : List UInt8} (h : B a = B b) : a = b := by
  have := congrArg (fun x : ByteArray => x.data.toList) h
  simpa using this
theorem len_small {n k b : Nat} (h1 : n = k) (h2 : k < b) (h3 : b < 256) : n + 1 ≤ 100000 := by omega
theorem wrap_k1 {k b : Nat} (h1 : k < b) (h2 : b < 256) : wrap64 ((k : Int) + 1) = (k : Int) + 1 := by unfold wrap64; omega
theorem meas2 {k b : Nat} (h1 : k < b) (h2 : b < 256) : b - (intOf (.int .i64 (wrap64 ((k : Int) + 1)))).toNat < b - (intOf (.int .i64 (k : Int))).toNat := by
  rw [wrap_k1 h1 h2]
  simp [intOf]
  omega
theorem meas3 {k b : Nat} (h1 : k < b) (h2 : b < 256) : b - (intOf (.int .i64 ((k : Int) + 1))).toNat < b - (intOf (.int .i64 (k : Int))).toNat := by
  simp [intOf]
  omega
theorem wrap_small (x : Nat) (h : x < 1000000) : IntKind.i64.wrap (x : Int) = (x : Int) ∧ wrap64 (x : Int) = (x : Int) := by
  constructor
  · rw [IntKind.wrap_i64]; omega
  · unfold wrap64; omega

theorem sz_lt {l : List UInt8} {i : Nat} (h : 2 ≤ l.length) (hi : i < 2) : i < (B l).size := by simp [ByteArray.size]; omega
theorem sub_lt2 {a b : Nat} (h2 : 2 ≤ a) (h : a < 2 + b) : a - 2 < b := by omega
theorem sub_ge2 {a b : Nat} (h : ¬ a < 2 + b) : ¬ a - 2 < b := by omega
theorem int_lt2 {a b : Nat} (h : a < 2 + b) : decide ((a : Int) < 2 + (b : Int)) = true := by simp; omega
theorem int_ge2 {a b : Nat} (h : ¬ a < 2 + b) : decide ((a : Int) < 2 + (b : Int)) = false := by simp; omega
theorem int_le2 {a b : Nat} (h : ¬ a < 2 + b) : (2 : Int) + (b : Int) ≤ (a : Int) := by omega
theorem int_two (b : Nat) : (2 : Int) ≤ 2 + (b : Int) ∧ ((2 : Int) + (b : Int)).toNat = 2 + b ∧ (0 : Int) ≤ 2 + (b : Int) := by omega
theorem del_one (d : UInt8) : ((d.toNat : Int) == 1) = (d == 1) := by
  rw [Bool.eq_iff_iff, beq_iff_eq, beq_iff_eq]
  constructor
  · intro e; exact UInt8.toNat_inj.1 (by have : d.toNat = 1 := by omega
                                         rw [this]; rfl)
  · rintro rfl; rfl
theorem OwnC.farg {w : World} {base g : Nat} {v : Value} {l : List Cel} (h : OwnC w base v l) (hne : some g ≠ v.ownBlock) (o : Nat) (u : Value) : OwnC (w.setCell ⟨g, o, none⟩ u) base v l := by
  have hb : w.grownBy (w.setCell ⟨g, o, none⟩ u) (some g) := ⟨rfl, rfl, rfl, by simp [World.setCell], fun i _ hne => Below.heap_setCell w ⟨g, o, none⟩ u i (by rintro rfl; exact hne rfl)⟩
  exact World.ownsRow.kept (row := some g) h hb (.inr hne.symm)
theorem own_not_new {w : World} {base : Nat} {v : Value} {l : List Cel} (h : OwnC w base v l) : some w.heap.size ≠ v.ownBlock := by
  intro e
  rcases h.2 with ⟨rfl, _⟩ | ⟨g', cap, cur, rfl, _, hg, _⟩
  · cases e
  · have e : w.heap.size = g' := by simpa [Value.ownBlock] using e
    rw [← e, Array.getElem?_eq_none (Nat.le_refl _)] at hg
    cases hg
/-- What Parse answers where there is nothing. -/
theorem none_ans {s : List UInt8} {w W : World} (hp : parseO s = none) (ho : Old w W) : ∃ v, Ending.returned (.tuple #[.slice none 0 0, .int .i64 50]) = .returned (.tuple #[v, .int .i64 (parseE s)]) ∧ Cels W v ((parseO s).getD []) ∧ Old w W := by
  refine ⟨.slice none 0 0, ?_, ?_, ho⟩
  · unfold parseE; rw [hp]
  · rw [hp]; exact .inl ⟨rfl, none, 0, rfl⟩

set_option maxRecDepth 100000 in
set_option maxHeartbeats 8000000 in
theorem rparse_any (s : List UInt8) (hs : s.length ≤ 100000) (w : World) :
    Calls Try.prog 17 #[.string (B s)] w fun e W' => ∃ v, e = .returned (.tuple #[v, .int .i64 (parseE s)]) ∧ Cels W' v ((parseO s).getD []) ∧ Old w W' := by
  by_cases hz : s.length = 0
  · have hnil : s = [] := List.eq_nil_of_length_eq_zero hz
    subst hnil
    go_enter Try.func17, Try.ntmps17
    go_wp2
    go_ret2
    exact none_ans (by unfold parseO; simp [itsOf]) (Old.re _)
  have h0 : 0 < s.length := by omega
  have hF : soFar s s[0].toNat 0 [] (s.drop 1) [] := by
    have := soFar.first s[0] (s.drop 1)
    rwa [← List.drop_eq_getElem_cons h0] at this
  have hb := s[0].toNat_lt
  have hsl : (s.drop 1).length ≤ 100000 := by simp; omega
  have hxt : (B s).extract 1 s.length = B (s.drop 1) := ext_drop s 1 _ (Nat.le_refl _)
  have hix : (B s)[0]'(by simpa [ByteArray.size] using h0) = s[0] := rfl
  have hpos : (0 : Int) < (s.length : Int) := by omega
  have hne : ((s.length : Int) == 0) = false := by rw [beq_eq_false_iff_ne]; omega
  have h1l : (1 : Int) ≤ (s.length : Int) := by omega
  obtain ⟨w1, w2⟩ := wrap_small s[0].toNat (by omega)
  generalize hb0 : s[0] = b at *
  clear hb0
  generalize s.drop 1 = t at *
  have o1 := old_alloc w (.cells #[] 39)
  have hE : OwnC (w.alloc (.cells #[] 39)) w.heap.size (.slice (some ⟨w.heap.size, 0, none⟩) 0 0) [] := own_empty (new_bk _ _ _) (Nat.le_refl _)
  go_enter Try.func17, Try.ntmps17
  go_wp2_with fail
  go_loopw [4, 5, 6, 7] (fun vo vk vr vi wr => ∃ (k : Nat) (key rest : List UInt8) (out : List Cel), k ≤ b.toNat ∧ vk = .string (B key) ∧ vr = .string (B rest) ∧ vi = .int .i64 k ∧ OwnC wr w.heap.size vo out ∧ Old w wr ∧ out.length = k ∧ key.length + rest.length ≤ 100000 ∧ Hid (∀ c ∈ out, c.ok) ∧ Hid (soFar s b.toNat k key rest out)) (fun _ _ _ i _ => b.toNat - (intOf i).toNat)
  case atStart => exact ⟨0, [], t, [], by omega, rfl, rfl, rfl, hE, o1, rfl, by simpa using hsl, Lib.hid (by simp), Lib.hid hF⟩
  case round =>
    obtain ⟨k, key, rest, out, hk, rfl, rfl, rfl, ho, hw, hol, hkr, HO, HF⟩ := hrel
    clear hF hE o1 hsl hxt
    by_cases hkN : k < b.toNat
    · have hI : decide ((k : Int) < (b.toNat : Int)) = true := by simp; omega
      by_cases h4 : rest.length < 4
      · have d4 : decide ((rest.length : Int) < 4) = true := by simp; omega
        have HN := Lib.hid (HF.out.bad hkN (rstep_short h4))
        go_wp2
        go_ret2
        exact none_ans HN.out hw
      have d4 : decide ((rest.length : Int) < 4) = false := by simp; omega
      have hr4 : 4 ≤ rest.length := by omega
      have j0 : (0 : Int) < (rest.length : Int) := by omega
      have j1 : (1 : Int) < (rest.length : Int) := by omega
      have j2 : (2 : Int) < (rest.length : Int) := by omega
      have j3 : (3 : Int) < (rest.length : Int) := by omega
      obtain ⟨n, hn⟩ : ∃ n, n = rest[0].toNat + 256 * rest[1].toNat := ⟨_, rfl⟩
      obtain ⟨m, hm⟩ : ∃ m, m = rest[2].toNat + 256 * rest[3].toNat := ⟨_, rfl⟩
      have HR := Lib.hid (rstep_form (key := key) hr4 n m hn hm)
      have i0 : (B rest)[0]'(by simp [ByteArray.size]; omega) = rest[0] := rfl
      have i1 : (B rest)[1]'(by simp [ByteArray.size]; omega) = rest[1] := rfl
      have i2 : (B rest)[2]'(by simp [ByteArray.size]; omega) = rest[2] := rfl
      have i3 : (B rest)[3]'(by simp [ByteArray.size]; omega) = rest[3] := rfl
      have l0 := rest[0].toNat_lt
      have l1 := rest[1].toNat_lt
      have l2 := rest[2].toNat_lt
      have l3 := rest[3].toNat_lt
      have v0 := (wrap_small rest[0].toNat (by omega)).1
      have v1 := (wrap_small rest[1].toNat (by omega)).1
      have v2 := (wrap_small rest[2].toNat (by omega)).1
      have v3 := (wrap_small rest[3].toNat (by omega)).1
      have p1 : IntKind.i64.wrap ((256 : Int) * (rest[1].toNat : Int)) = (256 : Int) * (rest[1].toNat : Int) := by rw [IntKind.wrap_i64]; omega
      have p3 : IntKind.i64.wrap ((256 : Int) * (rest[3].toNat : Int)) = (256 : Int) * (rest[3].toNat : Int) := by rw [IntKind.wrap_i64]; omega
      have s1 : IntKind.i64.wrap ((rest[0].toNat : Int) + (256 : Int) * (rest[1].toNat : Int)) = (n : Int) := by rw [IntKind.wrap_i64]; omega
      have s3 : IntKind.i64.wrap ((rest[2].toNat : Int) + (256 : Int) * (rest[3].toNat : Int)) = (m : Int) := by rw [IntKind.wrap_i64]; omega
      have z1 : (rest[0].toNat : Int) + (256 : Int) * (rest[1].toNat : Int) = (n : Int) := by omega
      have z3 : (rest[2].toNat : Int) + (256 : Int) * (rest[3].toNat : Int) = (m : Int) := by omega
      have hnl : n < 65536 := by omega
      have hml : m < 65536 := by omega
      clear hn hm
      generalize rest[0] = b0 at *
      generalize rest[1] = b1 at *
      generalize rest[2] = b2 at *
      generalize rest[3] = b3 at *
      go_wp2_with fail
      go_quiet (fail)
      go_wp2_with fail
      go_quiet (fail)
      generalize hw3 : ((wr.drewN _).drewN _ : World) = w3
      have oW : Old wr w3 := by rw [← hw3]; exact ((Old.re _).dn _).dn _
      have o3 := hw.tr oW
      have ho3 := ho.old oW
      clear hw3 hw ho oW i0 i1 i2 i3 l0 l1 l2 l3 v0 v1 v2 v3 p1 p3 s1 s3 z1 z3 j0 j1 j2 j3 w1 w2
      by_cases c1 : key.length < n
      · have e1 : decide ((key.length : Int) < (n : Int)) = true := by simp; omega
        have HN := Lib.hid (HF.out.bad hkN (by rw [HR.out, if_pos (.inl c1)]))
        go_wp2
        go_ret2
        exact none_ans HN.out o3
      have e1 : decide ((key.length : Int) < (n : Int)) = false := by simp; omega
      by_cases c2 : rest.length < 4 + m + 2
      · have e2 : decide ((rest.length : Int) < 4 + (m : Int) + 2) = true := by simp; omega
        have HN := Lib.hid (HF.out.bad hkN (by rw [HR.out, if_pos (.inr c2)]))
        go_wp2
        go_ret2
        exact none_ans HN.out o3
      have e2 : decide ((rest.length : Int) < 4 + (m : Int) + 2) = false := by simp; omega
      have HR2 := Lib.hid (show rstep key rest = rtail (key.take n ++ (rest.drop 4).take m) (fromK (key.take n ++ (rest.drop 4).take m)) (rest.drop (4 + m)) by rw [HR.out, if_neg (by omega)])
      clear HR
      have y1 : (n : Int) ≤ (key.length : Int) := by omega
      have y2 : (4 : Int) + (m : Int) ≤ (rest.length : Int) := by omega
      have y3 : (4 : Int) ≤ 4 + (m : Int) := by omega
      have y4 : ((4 : Int) + (m : Int)).toNat = 4 + m := by omega
      have y5 : (0 : Int) ≤ 4 + (m : Int) := by omega
      have y6 : IntKind.i64.wrap (4 + (m : Int)) = 4 + (m : Int) := by rw [IntKind.wrap_i64]; omega
      have x1 : (B key).extract 0 n = B (key.take n) := ext_take _ _
      have x2 : (B rest).extract 4 (4 + m) = B ((rest.drop 4).take m) := by rw [ext_B, Nat.add_sub_cancel_left]
      have x3 : B (key.take n) ++ B ((rest.drop 4).take m) = B (key.take n ++ (rest.drop 4).take m) := add_B _ _
      have hroom : ¬ (9223372036854775807 < (key.take n).length + ((rest.drop 4).take m).length) := by simp only [List.length_take, List.length_drop]; omega
      have hkyl : (key.take n ++ (rest.drop 4).take m).length ≤ key.length + m := by simp only [List.length_append, List.length_take, List.length_drop]; omega
      go_wp2_with fail
      go_quiet (fail)
      generalize hw4 : (w3.drewN _ : World) = w4
      have oW : Old w3 w4 := by rw [← hw4]; exact (Old.re _).dn _
      have o4 := o3.tr oW
      have ho4 := ho3.old oW
      clear hw4 o3 ho3 oW x1 x2 x3 hroom y1 e1 e2 c1
      generalize key.take n ++ (rest.drop 4).take m = ky at *
      go_wp2_with fail
      refine (rfromKey_any ky _ (by omega)).mono ?_
      rintro e w5 ⟨rfl, k5⟩
      have o5 := o4.tr k5
      have ho5 := ho4.old k5
      clear k5 o4 ho4
      have hrl : (rest.drop (4 + m)).length = rest.length - (4 + m) := by simp
      have xd : (B rest).extract (4 + m) rest.length = B (rest.drop (4 + m)) := ext_drop _ _ _ (Nat.le_refl _)
      generalize rest.drop (4 + m) = r2 at *
      have h2 : 2 ≤ r2.length := by omega
      have HT := Lib.hid (show r2 = r2[0] :: r2[1] :: r2.drop 2 by rw [← List.drop_eq_getElem_cons (by omega), ← List.drop_eq_getElem_cons (by omega)]; rfl)
      have hv := r2[1].toNat_lt
      have i1 : (B r2)[1]'(sz_lt h2 (by decide)) = r2[1]'(Nat.lt_of_lt_of_le (by decide) h2) := rfl
      have i0 : (B r2)[0]'(sz_lt h2 (by decide)) = r2[0]'(Nat.lt_of_lt_of_le (by decide) h2) := rfl
      have g1 : (1 : Int) < (r2.length : Int) := by omega
      have g0 : (0 : Int) < (r2.length : Int) := by omega
      obtain ⟨wv1, wv2⟩ := wrap_small r2[1].toNat (by omega)
      generalize r2[0] = d at *
      generalize r2[1] = v at *
      have hql : (r2.drop 2).length = r2.length - 2 := by simp
      have HQ := Lib.hid hql
      clear hql
      cases hfk : fromK ky with
      | none =>
        have HN := Lib.hid (HF.out.bad hkN (by rw [HR2.out, hfk]; rfl))
        rw [show fromV ky = .tuple #[.agg zeroCell, .int .i64 1] by simp [fromV, hfk]]
        have o6 := o5.al (.cells zeroCell 39)
        go_wp2
        go_ret2
        exact none_ans HN.out o6
      | some x =>
        rw [show fromV ky = .tuple #[cv x, .int .i64 0] by simp [fromV, hfk]]
        have HR3 := Lib.hid (show rstep key rest = if (r2.drop 2).length < v.toNat then none else some (ky, ⟨x.row, x.col, x.ts, x.seq, d == 1, (r2.drop 2).take v.toNat⟩, (r2.drop 2).drop v.toNat) by
          rw [HR2.out, hfk]; exact rtail_at ky x r2 d v HT.out)
        clear hfk
        have o6 := o5.al (.cells (cells x) 39)
        have ho6 := ho5.old (old_alloc w5 (.cells (cells x) 39))
        have b6 := new_bk w5 39 (cells x)
        have hge := o5.size
        have hng := Lib.hid (own_not_new ho5)
        go_upto_region 19 with (fail)
        generalize w5.alloc (.cells (cells x) 39) = w6 at *
        generalize w5.heap.size = g at *
        have HKR := Lib.hid hkr
        have HKN := Lib.hid hkN
        have HOL := Lib.hid hol
        have HYL := Lib.hid hkyl
        have HRL := Lib.hid hrl
        have HC2 := Lib.hid c2
        clear hix
        clear o5 ho5 hkr hkN hol hkyl hrl c2 hs hz h0 hpos hne h1l hb hnl hml hk hI y2 y3 y4 y5 y6 h4 d4 hr4 wv1 xd
        by_cases hqv : r2.length < 2 + v.toNat
        · have hc : (r2.drop 2).length < v.toNat := by rw [HQ.out]; exact sub_lt2 h2 hqv
          have HN := Lib.hid (HF.out.bad HKN.out (by rw [HR3.out, if_pos hc]))
          clear hc
          have ed := int_lt2 hqv
          go_wp2
          go_ret2
          exact none_ans HN.out o6
        have hc : ¬ (r2.drop 2).length < v.toNat := by rw [HQ.out]; exact sub_ge2 hqv
        have HR4 := Lib.hid (show rstep key rest = some (ky, ⟨x.row, x.col, x.ts, x.seq, d == 1, (r2.drop 2).take v.toNat⟩, (r2.drop 2).drop v.toNat) by rw [HR3.out, if_neg hc])
        clear hc
        clear HR3
        have ed := int_ge2 hqv
        have HXO := Lib.hid (rstep_ok HR4.out)
        have HM := Lib.hid (HF.out.more HKN.out HR4.out)
        have u1 := int_le2 hqv
        obtain ⟨u2', u3', u4'⟩ := int_two v.toNat
        have xv : (B r2).extract 2 (2 + v.toNat) = B ((r2.drop 2).take v.toNat) := by rw [ext_B, Nat.add_sub_cancel_left]
        have xr : (B r2).extract (2 + v.toNat) r2.length = B ((r2.drop 2).drop v.toNat) := by rw [ext_drop _ _ _ (Nat.le_refl _), List.drop_drop]
        have hd1 := del_one d
        generalize (r2.drop 2).take v.toNat = vl at *
        generalize (r2.drop 2).drop v.toNat = rs at *
        go_upto_region 21 with (fail)
        have f6 := b6.fr
        obtain ⟨z0, z1, z2, z3, z4, z5⟩ := b6.six
        have g6 := b6.lt
        have hgw : w.heap.size ≤ g := hge
        go_upto_region 23 with (fail)
        have b7 : Bk ((w6.setCell ⟨g, 4, none⟩ (.bool (d == 1))).setCell ⟨g, 5, none⟩ (.string (B vl))) g 39 (cells ⟨x.row, x.col, x.ts, x.seq, d == 1, vl⟩) := (b6.set_ 4 _).set_ 5 _
        have o7 : Old w ((w6.setCell ⟨g, 4, none⟩ (.bool (d == 1))).setCell ⟨g, 5, none⟩ (.string (B vl))) := (o6.st hgw _).st hgw _
        have ho7 := (ho6.farg hng.out 4 (.bool (d == 1))).farg hng.out 5 (.string (B vl))
        generalize (w6.setCell ⟨g, 4, none⟩ (.bool (d == 1))).setCell ⟨g, 5, none⟩ (.string (B vl)) = w7 at *
        clear o6 ho6 b6 f6 z0 z1 z2 z3 z4 z5 g6 hng
        generalize (⟨x.row, x.col, x.ts, x.seq, d == 1, vl⟩ : Cel) = c at *
        obtain ⟨z0, z1, z2, z3, z4, z5⟩ := b7.six
        have hk64 := wrap_k1 HKN.out b.toNat_lt
        have hol2 : out.length + 1 ≤ 100000 := len_small HOL.out HKN.out b.toNat_lt
        go_wp2_with (at_builtin; refine wp_cels rfl (.tmp 101) (.tmp 103) rfl (W0 := w) (o7.al _) _ out [c] rfl (ho7.old (old_alloc _ _)) w7.heap.size 0 1 1 rfl rfl (cels_one (new_bk _ _ _)) hol2 ?_; intro v8 w8 n8 o8)
        go_roundw
        case rel =>
          have hkn := HKN.out
          have hb9 := b.toNat_lt
          refine ⟨k + 1, ky, rs, out ++ [c], hkn, rfl, rfl, by go_num, n8, o8, by simp [HOL.out], ?_, Lib.hid ?_, HM⟩
          · exact Nat.le_trans (Nat.le_trans (Nat.le_add_right _ 6) (show ky.length + rs.length + 6 ≤ key.length + rest.length from HXO.out.2)) HKR.out
          · intro e he
            rcases List.mem_append.1 he with he | he
            · exact HO.out e he
            · rw [List.mem_singleton.1 he]; exact HXO.out.1
        case measure => first | exact meas3 HKN.out b.toNat_lt | exact meas2 HKN.out b.toNat_lt
    · have hI : decide ((k : Int) < (b.toNat : Int)) = false := by simp; omega
      have hkN2 : k = b.toNat := by omega
      have hol3 : out.length ≤ 1000000000 := by omega
      subst hkN2
      have HL := Lib.hid (HF.out.last HO.out)
      obtain ⟨A, cap, rfl⟩ := ho.form2
      clear HF hkr hol
      go_wp2_with fail
      refine (rbuild_at _ out _ ho.cels HO.out hol3).mono ?_
      rintro e w1 ⟨rfl, k1⟩
      have o1 := hw.tr k1
      have ho1 := ho.old k1
      clear k1 hw ho
      by_cases he : errB out = 0
      case neg =>
        rw [buildV_no rfl he]
        have hne2 : (errB out != 0) = true := by simpa using he
        have HN := Lib.hid (show parseO s = none by rw [HL.out, if_neg (fun h => he h.1)])
        go_wp2
        go_ret2
        exact none_ans HN.out o1
      rw [buildV_yes he]
      by_cases hs2 : blk out = s
      case neg =>
        have HN := Lib.hid (show parseO s = none by rw [HL.out, if_neg (fun h => hs2 h.2)])
        have hbe : (blk out == s) = false := by simpa using hs2
        go_wp2
        go_ret2
        exact none_ans HN.out o1
      have HP := Lib.hid (show parseO s = some out by rw [HL.out, if_pos ⟨he, hs2⟩])
      rw [hs2]
      go_wp2
      go_ret2
      refine ⟨.slice A out.length cap, ?_, by rw [HP.out]; exact ho1.cels, o1⟩
      show Ending.returned (.tuple #[.slice A out.length cap, .int .i64 0]) = _
      unfold parseE
      rw [HP.out]
end Go.Proofs.Ytdlendmbdikflaa
