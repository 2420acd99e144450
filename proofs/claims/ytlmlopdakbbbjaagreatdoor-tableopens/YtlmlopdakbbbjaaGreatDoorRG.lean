/-
  Texts in one: TRef TRBd TRSn TRLk TSam. Conditions: as each theorem writes them.
-/
import Derived.Test.YtlmlopdakbbbjaaGreatDoorTSho
import Derived.Test.YtlmlopdakbbbjaaGreatDoorTGrp
import Derived.Test.YtlmlopdakbbbjaaGreatDoorRSame
import Derived.Test.YtlmlopdakbbbjaaGreatDoorCG
import Derived.Test.YtlmlopdakbbbjaaGreatDoorMG
namespace Go.Proofs.YtlmlopdakbbbjaaGreatDoor
open Go.RowKit

theorem row_empty {w : World} {base g : Nat} {e : TypeId} (h : Bk w g e #[]) (hb : base ≤ g) : w.ownsRow base e 1 (.slice (some ⟨g, 0, none⟩) 0 0) 0 [] :=
  ⟨rfl, .inr ⟨g, 0, #[], rfl, hb, h, Nat.le_refl _, by simp, rfl, rfl⟩⟩
set_option maxRecDepth 100000 in
set_option maxHeartbeats 4000000 in
theorem rparts_any (v : Value) (l : List Cel) (w : World) (h : CelC w v l) (hml : l.length ≤ 100000) :
    Calls Tryz.prog 25 #[v] w fun e w' => ∃ v', e = .returned v' ∧ Prts w' w.heap.size v' (parts l) ∧ Old w w' := by
  go_enter Tryz.func25, Tryz.ntmps25
  go_wp2_with fail
  go_loopw [0, 3] (fun vl vc wr => ∃ (rest : List Cel) (ps : List (List Cel)) (vs : List Value), CelC w vl rest ∧ rest.length ≤ l.length ∧ Hid (parts l = ps ++ parts rest) ∧ ps.length ≤ 100000 ∧ wr.ownsRow w.heap.size 22 1 vc ps.length vs ∧ vs.length = ps.length ∧ Hid (∀ (i : Nat) (p : List Cel), ps[i]? = some p → ∃ b off cap, vs[i]? = some (Value.slice (some ⟨b, off, none⟩) p.length cap) ∧ p.length ≤ cap ∧ CelsAt w b off p) ∧ Old w wr) (fun vl _ _ => sliceLen vl)
  case atStart => exact ⟨l, [], [], h, Nat.le_refl _, Lib.hid rfl, by simp, row_empty (new_bk _ _ _) (Nat.le_refl _), rfl, Lib.hid (by simp), old_alloc _ _⟩
  case round =>
    obtain ⟨rest, ps, vs, ⟨A, cap, rfl, hcap, hC⟩, hr, HP, hpl, hown, hvl, HV, hw⟩ := hrel
    by_cases hz : rest.length = 0
    · have hnil : rest = [] := List.eq_nil_of_length_eq_zero hz
      subst hnil
      have HP2 := Lib.hid (show parts l = ps by have := HP.out; rwa [parts_nil, List.append_nil] at this)
      go_wp2
      go_ret
      refine ⟨_, rfl, ⟨vs, ?_, ?_, ?_⟩, hw⟩
      · rw [HP2.out]; exact hown
      · rw [HP2.out]; exact hvl
      · rw [HP2.out]
        intro i p hp
        obtain ⟨b, off, cap, e, h1, h2⟩ := HV.out i p hp
        exact ⟨b, off, cap, e, h1, h2.old hw⟩
    · have hpos : decide ((0 : Int) < (rest.length : Int)) = true := by simp; omega
      obtain ⟨b, off, rfl, hCA⟩ := hC (by rintro rfl; exact hz rfl)
      obtain ⟨n, hn8, hnr, hn1, HN, HMn⟩ : ∃ n : Nat, n ≤ 8 ∧ n ≤ rest.length ∧ 1 ≤ n ∧ Hid (parts rest = rest.take n :: parts (rest.drop n)) ∧ min (8 : Int) (rest.length : Int) = (n : Int) := by
        have hp := parts_cons (l := rest) (by rintro rfl; exact hz rfl)
        by_cases h8 : 8 ≤ rest.length
        · exact ⟨8, by omega, h8, by omega, Lib.hid hp, by omega⟩
        · refine ⟨rest.length, by omega, by omega, by omega, Lib.hid ?_, by omega⟩
          rw [hp, List.take_of_length_le (by omega), List.drop_of_length_le (by omega), List.take_length, List.drop_length]
      have c3 : n ≤ cap := by omega
      have hif : ∃ A2, (if cap = n then some (⟨b, off, none⟩ : Addr) else some ⟨b, off + n * 6, none⟩) = A2 ∧ (rest.drop n ≠ [] → ∃ b off, A2 = some ⟨b, off, none⟩ ∧ CelsAt w b off (rest.drop n)) := by
        refine ⟨_, rfl, fun hne => ?_⟩
        have hlt : n < rest.length := by
          rcases Nat.lt_or_ge n rest.length with h | h
          · exact h
          · exact absurd (List.drop_of_length_le h) hne
        exact ⟨b, off + n * 6, if_neg (by omega), hCA.drop_ n⟩
      obtain ⟨A2, hA2, hC2⟩ := hif
      have HC2 := Lib.hid hC2
      have hto := fun W => sl_to b off rest.length cap n c3 W
      have hfr := fun W => sl_from b off rest.length cap n hnr W
      rw [hA2] at hfr
      clear hC2 hC hA2
      have hdl : (rest.drop n).length = rest.length - n := by simp
      have htl : (rest.take n).length = n := by simp; omega
      go_wp2_with (at_builtin; refine wp_one rfl (.tmp 12) (.tmp 16) 54 22 (.slice none 0 0) 24 (by decide) Tryz.underlying54 rfl Tryz.infoSl rfl (W0 := w) (hw.al _) _ vs _ rfl (row_old hown (old_alloc _ _)) (.slice (some ⟨b, off, none⟩) n cap) rfl wr.heap.size 1 rfl (new_bk _ _ _) hpl ?_; intro v5 w5 n5 o5)
      go_roundw
      case rel =>
        refine ⟨rest.drop n, ps ++ [rest.take n], vs ++ [.slice (some ⟨b, off, none⟩) n cap], ⟨A2, cap - n, by rw [hdl], by omega, HC2.out⟩, by omega, Lib.hid ?_, ?_, by simpa using n5, by simp [hvl], Lib.hid ?_, o5⟩
        · rw [HP.out, HN.out]; simp
        · have h1 := congrArg List.length HP.out
          rw [HN.out, List.length_append, List.length_cons, parts_len] at h1
          simp only [List.length_append, List.length_cons, List.length_nil]
          omega
        · have := prts_snoc (b := b) (off := off) (cap := cap) (p := rest.take n) hvl HV.out (hCA.take_ n) (by omega)
          rwa [htl] at this
      case measure => simp [sliceLen]; omega
set_option maxHeartbeats 1000000 in
theorem rput5_any (l : List UInt8) (h : l.length ≤ 65535) (w : World) :
    Calls Tryz.prog 27 #[.string (B l)] w fun e w' => e = .returned (.string (B (put l))) ∧ Old w w' := by
  go_enter Tryz.func27, Tryz.ntmps27
  go_wp2_with fail
  refine (rput_yes l h _).mono ?_
  rintro e w1 ⟨rfl, h1⟩
  go_wp2
  go_ret
  exact ⟨rfl, h1⟩
theorem low4_N (n : Nat) : low4 n = lowN n 4 := by simp [low4, lowN]
end Go.Proofs.YtlmlopdakbbbjaaGreatDoor

namespace Go.Proofs.YtlmlopdakbbbjaaGreatDoor
open Go.RowKit

theorem lastR_take (l : List Cel) (k : Nat) (h0 : 0 < k) (h : k ≤ l.length) : lastR (l.take k) = (l[k - 1]'(by omega)).row := by
  have hl : (l.take k).length = k := by simp; omega
  unfold lastR
  rw [hl, List.getElem?_take, if_pos (by omega), List.getElem?_eq_getElem (by omega)]
  rfl
set_option maxRecDepth 100000 in
set_option maxHeartbeats 4000000 in
theorem rrows_any (v : Value) (l : List Cel) (w : World) (h : CelC w v l) (hl : l.length ≤ 1000) :
    Calls Tryz.prog 31 #[v] w fun e w' => ∃ v', e = .returned v' ∧ w'.ownsRow w.heap.size 9 1 v' (rowsOf l).length (ts (rowsOf l)) ∧ Old w w' := by
  obtain ⟨A, cap, rfl, -, hC⟩ := h
  go_enter Tryz.func31, Tryz.ntmps31
  go_wp2_with fail
  go_loopw [3, 4] (fun vt i wr => ∃ k : Nat, k ≤ l.length ∧ i = .int .i64 k ∧ wr.ownsRow w.heap.size 9 1 vt (rowsOf (l.take k)).length (ts (rowsOf (l.take k))) ∧ Old w wr) (fun _ i _ => l.length - (intOf i).toNat)
  case atStart => exact ⟨0, Nat.zero_le _, rfl, row_empty (new_bk _ _ _) (Nat.le_refl _), old_alloc _ _⟩
  case round =>
    obtain ⟨k, hk, rfl, ho, hw⟩ := hrel
    by_cases h1 : k < l.length
    · obtain ⟨b, off, rfl, hA⟩ := hC (by rintro rfl; simp at h1)
      obtain ⟨a0, -⟩ := ((hA.at_ k h1).old hw).held
      have HT := Lib.hid (show rowsOf (l.take (k + 1)) = rowsOf (l.take k) ++ (if l.take k = [] ∨ lastR (l.take k) ≠ l[k].row then [l[k].row] else []) by rw [List.take_succ_eq_append_getElem h1, rowsOf_snoc])
      have hrl : (rowsOf (l.take k)).length ≤ 1000 := by
        have := Lib.compact_length_le ((l.take k).map (·.row))
        rw [List.length_map, List.length_take] at this
        unfold rowsOf
        omega
      have i1 : (k : Int) < (l.length : Int) := by omega
      by_cases hz : k = 0
      · subst hz
        have HT2 := Lib.hid (show rowsOf (l.take (0 + 1)) = rowsOf (l.take 0) ++ [l[0].row] by rw [HT.out, if_pos (.inl rfl)])
        generalize l[0].row = x at *
        rw [Nat.zero_mul, Nat.add_zero] at a0
        have i0 : (0 : Int) < (l.length : Int) := by omega
        go_wp2_with fail
        go_quiet (fail)
        generalize hwd : (wr.drewN _ : World) = w2
        have o2 : Old wr w2 := by rw [← hwd]; exact (Old.re _).dn _
        have a2 := cell_old a0 o2
        have o3 := hw.tr o2
        have ho3 := row_old ho o2
        clear hwd a0 ho hw
        go_wp2_with (at_builtin; refine wp_one rfl (.tmp 28) (.tmp 34) 45 9 (.string ByteArray.empty) 16 (by decide) Tryz.underlying45 rfl Tryz.infoStr rfl (W0 := w) (o3.al _) _ _ _ rfl (row_old ho3 (old_alloc _ _)) (.string (B x)) rfl w2.heap.size 1 rfl (new_bk _ _ _) (by omega) ?_; intro v4 w4 n4 o4)
        go_roundw
        case rel =>
          refine ⟨0 + 1, by omega, by go_num, ?_, o4⟩
          rw [HT2.out, ts_snoc, List.length_append]
          exact n4
        case measure => simp [intOf]; omega
      · have hk1 : k - 1 < l.length := by omega
        obtain ⟨b0, -⟩ := ((hA.at_ (k - 1) hk1).old hw).held
        rw [lastR_take l k (by omega) hk] at HT
        have hne : l.take k ≠ [] := by
          intro e
          have := congrArg List.length e
          rw [List.length_take, List.length_nil] at this
          omega
        generalize l[k].row = x at *
        generalize l[k - 1].row = y at *
        have dz : ((k : Int) == 0) = false := by rw [beq_eq_false_iff_ne]; omega
        have i2 : (k : Int) - 1 < (l.length : Int) := by omega
        have i3 : (0 : Int) ≤ (k : Int) - 1 := by omega
        have i4 : ((k : Int) - 1).toNat = k - 1 := by omega
        by_cases hxy : x = y
        · have HT2 := Lib.hid (show rowsOf (l.take (k + 1)) = rowsOf (l.take k) by rw [HT.out, if_neg (by rintro (h | h); exact hne h; exact h hxy.symm), List.append_nil])
          have hbe : (x == y) = true := by simpa using hxy
          clear hxy HT
          go_wp2_with fail
          go_quiet (fail)
          go_wp2
          go_roundw
          case rel => exact ⟨k + 1, by omega, by go_num, by rw [HT2.out]; exact row_old ho ((Old.re _).dn _), hw.dn _⟩
          case measure => simp [intOf]; omega
        · have HT2 := Lib.hid (show rowsOf (l.take (k + 1)) = rowsOf (l.take k) ++ [x] by rw [HT.out, if_pos (.inr (fun e => hxy e.symm))])
          have hbe : (x == y) = false := by simpa using hxy
          clear hxy HT
          go_wp2_with fail
          go_quiet (fail)
          generalize hwd : (wr.drewN _ : World) = w2
          have o2 : Old wr w2 := by rw [← hwd]; exact (Old.re _).dn _
          have a2 := cell_old a0 o2
          have o3 := hw.tr o2
          have ho3 := row_old ho o2
          clear hwd a0 b0 ho hw
          go_wp2_with (at_builtin; refine wp_one rfl (.tmp 28) (.tmp 34) 45 9 (.string ByteArray.empty) 16 (by decide) Tryz.underlying45 rfl Tryz.infoStr rfl (W0 := w) (o3.al _) _ _ _ rfl (row_old ho3 (old_alloc _ _)) (.string (B x)) rfl w2.heap.size 1 rfl (new_bk _ _ _) (by omega) ?_; intro v4 w4 n4 o4)
          go_roundw
          case rel =>
            refine ⟨k + 1, by omega, by go_num, ?_, o4⟩
            rw [HT2.out, ts_snoc, List.length_append]
            exact n4
          case measure => simp [intOf]; omega
    · have e : k = l.length := by omega
      subst e
      rw [List.take_length] at ho
      go_wp2
      go_ret
      exact ⟨_, rfl, ho, hw⟩

theorem low8_N (n : Nat) : num8 n false = lowN n 8 := by simp [num8, low8, lowN]
theorem low2_N (n : Nat) (h : n < 65536) : (bs (lowN n 2)).toArray = #[.int .u8 ((n : Int) % 256), .int .u8 ((n : Int) / 256)] := by
  simp [bs, lowN]
  omega
theorem txt_take (ps : List (List Cel)) (k : Nat) (h : k < ps.length) : ((ps.take (k + 1)).map fun p => put (blk p)).flatten = ((ps.take k).map fun p => put (blk p)).flatten ++ put (blk ps[k]) := by
  rw [List.take_succ_eq_append_getElem h, List.map_append, List.flatten_append]
  simp only [List.map_cons, List.map_nil, List.flatten_cons, List.flatten_nil, List.append_nil]
theorem ixt_take (ps : List (List Cel)) (k : Nat) (h : k < ps.length) : ((ps.take (k + 1)).map fun p => lowN (put (blk p)).length 4).flatten = ((ps.take k).map fun p => lowN (put (blk p)).length 4).flatten ++ lowN (put (blk ps[k])).length 4 := by
  rw [List.take_succ_eq_append_getElem h, List.map_append, List.flatten_append]
  simp only [List.map_cons, List.map_nil, List.flatten_cons, List.flatten_nil, List.append_nil]
theorem ixt_len (ps : List (List Cel)) : ((ps.map fun p => lowN (put (blk p)).length 4).flatten).length = 4 * ps.length := by
  induction ps with
  | nil => rfl
  | cons t ts ih => simp only [List.map_cons, List.flatten_cons, List.length_append, List.length_cons, ih, lowN_length]; omega
theorem txt_len {ps : List (List Cel)} (h : ∀ p ∈ ps, (put (blk p)).length ≤ 2407) : ((ps.map fun p => put (blk p)).flatten).length ≤ 2407 * ps.length := by
  have := flat_le (ts := ps.map fun p => put (blk p)) (m := 2407) (by
    intro t ht
    obtain ⟨p, hp, rfl⟩ := List.mem_map.1 ht
    exact h p hp)
  rwa [List.length_map] at this
set_option maxRecDepth 100000 in
set_option maxHeartbeats 8000000 in
theorem rbuild5_any (v : Value) (l : List Cel) (s : Nat) (w : World) (h : CelC w v l) (hok : ∀ c ∈ l, c.ok) (hml : l.length ≤ 1000) (hs : s < 18446744073709551616) :
    Calls Tryz.prog 8 #[v, .int .u64 s] w fun e w' => e = .returned (buildTV l s) ∧ Old w w' := by
  have hcs := h.cels
  have hh := h
  obtain ⟨A, cap, rfl, hcap, -⟩ := hh
  have h1 : ¬ 2000 < l.length := by omega
  have d1 : decide ((2000 : Int) < (l.length : Int)) = false := by simp; omega
  by_cases h2 : l.length = 0
  · have d2 : ((l.length : Int) == 0) = true := by rw [h2]; rfl
    have HV := Lib.hid (buildTV_no s (show errT l = 1 by unfold errT; rw [if_neg h1, if_pos h2]) (by decide))
    go_enter Tryz.func8, Tryz.ntmps8
    go_wp2
    go_ret2
    exact ⟨by rw [HV.out]; rfl, Old.re _⟩
  have d2 : ((l.length : Int) == 0) = false := by rw [beq_eq_false_iff_ne]; omega
  have hne : l ≠ [] := by rintro rfl; exact h2 rfl
  have HE := Lib.hid (show errT l = if partE (parts l) = 0 then (if rising l = true then 0 else 40) else partE (parts l) by unfold errT; rw [if_neg h1, if_neg h2])
  have hpl := parts_len l
  have HEA := Lib.hid (parts_each l)
  have HAB := Lib.hid (show allB l = ((parts l).map fun p => put (blk p)).flatten from rfl)
  have HIX := Lib.hid (show idx (texts l) = put (lowN (parts l).length 2 ++ ((parts l).map fun p => lowN (put (blk p)).length 4).flatten) by unfold idx texts; rw [List.length_map, List.map_map]; rfl)
  go_enter Tryz.func8, Tryz.ntmps8
  go_wp2_with fail
  refine (rparts_any _ l _ h (by omega)).mono ?_
  rintro e w1 ⟨vp, rfl, hP, k1⟩
  obtain ⟨Ap, cp, rfl⟩ := hP.form
  have HOK := Lib.hid (show ∀ p ∈ parts l, ∀ c ∈ p, c.ok from fun p hp c hc => hok c ((HEA.out p hp).2.2 c hc))
  generalize hq : parts l = ps at *
  have HQ := Lib.hid hq
  have hps : ps.length ≤ 251 := by omega
  have hp16 : ps.length < 65536 := by omega
  clear hq hpl hok d1 d2 h1
  have hcv := str_new w1 #[.int .u8 ((ps.length : Int) % 256), .int .u8 ((ps.length : Int) / 256)] (lowN ps.length 2) 2 2 (by rw [lowN_length]) (low2_N _ hp16).symm
  have o1 := k1.al (.cells #[.int .u8 ((ps.length : Int) % 256), .int .u8 ((ps.length : Int) / 256)] 5)
  have hP1 := hP.old (old_alloc w1 (.cells #[.int .u8 ((ps.length : Int) % 256), .int .u8 ((ps.length : Int) / 256)] 5))
  go_wp2_with fail
  generalize w1.alloc (.cells #[.int .u8 ((ps.length : Int) % 256), .int .u8 ((ps.length : Int) / 256)] 5) = w2 at *
  clear hcv hP k1
  go_loopw [7, 8, 9] (fun vb vi i wr => ∃ k : Nat, k ≤ ps.length ∧ i = .int .i64 k ∧ vb = .string (B ((ps.take k).map fun p => put (blk p)).flatten) ∧ vi = .string (B (lowN ps.length 2 ++ ((ps.take k).map fun p => lowN (put (blk p)).length 4).flatten)) ∧ Hid (∀ p ∈ ps.take k, errB p = 0) ∧ Old w2 wr) (fun _ _ i _ => ps.length - (intOf i).toNat)
  case atStart => exact ⟨0, Nat.zero_le _, rfl, rfl, by simp, Lib.hid (by simp), Old.re _⟩
  case round =>
    obtain ⟨k, hk, rfl, rfl, rfl, HZ, hw⟩ := hrel
    have htl : ((ps.take k).map fun p => put (blk p)).flatten.length ≤ 700000 := by
      have := txt_len (ps := ps.take k) (fun p hp => by
        have := blk_len8 p (HZ.out p hp) (HEA.out p (List.mem_of_mem_take hp)).2.1
        rw [put_length]; omega)
      rw [List.length_take] at this
      omega
    have hil : (lowN ps.length 2 ++ ((ps.take k).map fun p => lowN (put (blk p)).length 4).flatten).length ≤ 2000 := by
      rw [List.length_append, lowN_length, ixt_len, List.length_take]
      omega
    by_cases hlt : k < ps.length
    · obtain ⟨g, b, off, c, rfl, hc, hcl, hC⟩ := (hP1.old hw).at_ k hlt
      have HTk := Lib.hid (show ps.take (k + 1) = ps.take k ++ [ps[k]] from List.take_succ_eq_append_getElem hlt)
      have HX1 := Lib.hid (txt_take ps k hlt)
      have HX2 := Lib.hid (ixt_take ps k hlt)
      have HM := Lib.hid (List.getElem_mem hlt)
      have HA := Lib.hid (fun he => partE_at hlt HZ.out he)
      generalize ps[k] = p at *
      have h8 := (HEA.out p HM.out).2.1
      have i1 : (k : Int) < (ps.length : Int) := by omega
      generalize ((ps.take k).map fun p => put (blk p)).flatten = tx at *
      generalize hix : lowN ps.length 2 ++ ((ps.take k).map fun p => lowN (put (blk p)).length 4).flatten = ix at *
      have HIXk := Lib.hid hix
      clear hix
      go_wp2_with fail
      refine (rbuild_at _ p _ (.inr ⟨b, off, c, rfl, hC⟩) (HOK.out p HM.out) (by omega)).mono ?_
      rintro e w3 ⟨rfl, k3⟩
      by_cases he : errB p = 0
      · rw [buildV_yes he]
        have hbl := blk_len8 p he h8
        go_wp2_with fail
        refine (rput5_any (blk p) (by omega) _).mono ?_
        rintro e w4 ⟨rfl, k4⟩
        have o4 := hw.tr (k3.tr k4)
        have hpu : (put (blk p)).length ≤ 2407 := by rw [put_length]; omega
        generalize put (blk p) = pb at *
        have hu32 : IntKind.u32.wrap (pb.length : Int) = (pb.length : Int) := by rw [IntKind.wrap_u32]; omega
        go_wp2_with fail
        refine (rfour_any pb.length (by omega) _).mono ?_
        rintro e w5 ⟨rfl, k5⟩
        rw [low4_N]
        have hl4 := lowN_length pb.length 4
        generalize lowN pb.length 4 = l4 at *
        have o5 := o4.tr k5
        clear k3 k4 k5 o4 hc hC hbl
        go_wp2
        go_roundw
        case rel =>
          refine ⟨k + 1, by omega, by go_num, ?_, ?_, Lib.hid ?_, o5⟩
          · rw [HX1.out, ← add_B]
          · rw [HX2.out, ← List.append_assoc, HIXk.out, ← add_B]
          · intro q hq
            rw [HTk.out, List.mem_append] at hq
            rcases hq with hq | hq
            · exact HZ.out q hq
            · rw [List.mem_singleton.1 hq]; exact he
        case measure => simp [intOf]; omega
      · rw [buildV_no rfl he]
        have hne2 : (errB p != 0) = true := by simpa using he
        have HV := Lib.hid (buildTV_no s (show errT l = errB p by rw [HE.out, HA.out he, if_neg he]) he)
        go_wp2
        go_ret2
        exact ⟨by rw [HV.out]; rfl, o1.tr (hw.tr k3)⟩
    · have e : k = ps.length := by omega
      subst e
      rw [List.take_length] at *
      have hpz := partE_zero.2 HZ.out
      rw [if_pos hpz] at HE
      have HAB2 := Lib.hid HAB.out.symm
      have HIX2 := Lib.hid HIX.out.symm
      have h4 := h.old (o1.tr hw)
      have hcs4 := hcs.old (o1.tr hw)
      have hmay := Lib.hid (show ∀ c ∈ l, c.row.length ≤ 100000 from by
        intro c hc
        have hc2 : c ∈ (parts l).flatten := by rw [parts_flat]; exact hc
        rw [HQ.out] at hc2
        obtain ⟨p, hp, hcp⟩ := List.mem_flatten.1 hc2
        have := (mayB_parts ((errB_zero.1 (HZ.out p hp)).2.1 c hcp)).2.1
        omega)
      have hfl := filt_len l (by omega)
      clear HIX HAB HOK HEA hP1 hcs h
      rw [HAB2.out] at htl
      have HIX3 := HIX2
      generalize hib : lowN ps.length 2 ++ (ps.map fun p => lowN (put (blk p)).length 4).flatten = ib at *
      clear hib
      rw [HAB2.out]
      generalize hab : allB l = ab at *
      have HABe := Lib.hid hab
      clear hab
      have o4 := o1.tr hw
      go_wp2_with fail
      refine (rrising_at _ l _ (by omega) hcs4).mono ?_
      rintro e w5 ⟨rfl, k5⟩
      cases hris : rising l with
      | false =>
        have HV := Lib.hid (buildTV_no s (show errT l = 40 by rw [HE.out, hris]; rfl) (by decide))
        go_wp2
        go_ret2
        exact ⟨by rw [HV.out]; rfl, o4.tr k5⟩
      | true =>
        have HV := Lib.hid (buildTV_yes s (show errT l = 0 by rw [HE.out, if_pos hris]))
        have o5 := o4.tr k5
        have h5 := h4.old k5
        clear h4 hcs4 k5 o4 HE hris
        go_wp2_with fail
        refine (rrows_any _ l _ h5 hml).mono ?_
        rintro e w6 ⟨vr, rfl, hR, k6⟩
        have o6 := o5.tr k6
        have hrl : ∀ t ∈ rowsOf l, t.length ≤ 100000 := fun t ht => by
          obtain ⟨c, hc, rfl⟩ := rowsOf_mem l t ht
          exact hmay.out c hc
        obtain ⟨Ar, cr, rfl, hS⟩ := strs_of_own hR (fun t ht => by have := hrl t ht; omega)
        have hrn : (rowsOf l).length ≤ 2000 := by have := Lib.compact_length_le (l.map (·.row)); rw [List.length_map] at this; unfold rowsOf; omega
        have HF := Lib.hid (show makeL (rowsOf l) 10 = filt l from rfl)
        clear o5 k6 hR h5
        generalize rowsOf l = rs at *
        go_wp2_with fail
        refine (rmake_any rs Ar cr 10 (by omega) (by omega) hrn hrl _ hS).mono ?_
        rintro e w7 ⟨rfl, k7⟩
        rw [HF.out]
        have o7 := o6.tr k7
        clear o6 k7 hS
        go_wp2_with fail
        refine (rput5_any ib (by omega) _).mono ?_
        rintro e w8 ⟨rfl, k8⟩
        rw [HIX2.out]
        have o8 := o7.tr k8
        clear o7 k8
        go_wp2_with fail
        refine (rput5_any (filt l) (by omega) _).mono ?_
        rintro e w9 ⟨rfl, k9⟩
        have o9 := o8.tr k9
        clear o8 k9
        have hix5 := idx_len (texts l)
        rw [texts_len] at hix5
        have b1 : ab.length ≤ 700000 := htl
        have b2 : (idx (texts l)).length ≤ 3000 := by omega
        have b3 : (put (filt l)).length ≤ 20000 := by omega
        have HT := Lib.hid (show tbl l s = ab ++ idx (texts l) ++ put (filt l) ++ ftx ab.length (idx (texts l)).length (put (filt l)).length s by rw [← HABe.out]; rfl)
        clear hix5 hfl htl hil HIX2 HIX3
        generalize idx (texts l) = ix at *
        generalize put (filt l) = pf at *
        have u1 : IntKind.u32.wrap (ab.length : Int) = (ab.length : Int) := by rw [IntKind.wrap_u32]; omega
        have u2 : IntKind.u32.wrap (ix.length : Int) = (ix.length : Int) := by rw [IntKind.wrap_u32]; omega
        have u3 : IntKind.u32.wrap (pf.length : Int) = (pf.length : Int) := by rw [IntKind.wrap_u32]; omega
        have HX := Lib.hid (show ftx ab.length ix.length pf.length s = put (lowN ab.length 4 ++ lowN ix.length 4 ++ lowN pf.length 4 ++ lowN s 8) from rfl)
        go_wp2_with fail
        refine (rfour_any ab.length (by omega) _).mono ?_
        rintro e wa ⟨rfl, ka⟩
        rw [low4_N]
        go_wp2_with fail
        refine (rfour_any ix.length (by omega) _).mono ?_
        rintro e wb ⟨rfl, kb⟩
        rw [low4_N]
        have l1 := lowN_length ab.length 4
        have l2 := lowN_length ix.length 4
        have l3 := lowN_length pf.length 4
        have l4 := lowN_length s 8
        go_wp2_with fail
        refine (rfour_any pf.length (by omega) _).mono ?_
        rintro e wc ⟨rfl, kc⟩
        rw [low4_N]
        go_wp2_with fail
        refine (rnumber_any s false _ hs).mono ?_
        rintro e wd ⟨rfl, kd⟩
        rw [low8_N]
        have od := (((o9.tr ka).tr kb).tr kc).tr kd
        clear ka kb kc kd o9
        generalize lowN ab.length 4 = q1 at *
        generalize lowN ix.length 4 = q2 at *
        generalize lowN pf.length 4 = q3 at *
        generalize lowN s 8 = q4 at *
        have HADD := Lib.hid (show B q1 ++ B q2 ++ B q3 ++ B q4 = B (q1 ++ q2 ++ q3 ++ q4) by rw [add_B, add_B, add_B])
        go_wp2_with fail
        rw [HADD.out]
        refine (rput5_any (q1 ++ q2 ++ q3 ++ q4) (by simp only [List.length_append]; omega) _).mono ?_
        rintro e we ⟨rfl, ke⟩
        rw [← HX.out]
        have hfx := ftx_len ab.length ix.length pf.length s
        have oe := od.tr ke
        generalize ftx ab.length ix.length pf.length s = fx at *
        have HR := Lib.hid (show (Ending.returned (.tuple #[.string (B ab ++ B ix ++ B pf ++ B fx), .int .i64 0])) = .returned (buildTV l s) by rw [HV.out, HT.out, add_B, add_B, add_B])
        go_wp2
        go_ret2
        exact ⟨HR.out, oe⟩
end Go.Proofs.YtlmlopdakbbbjaaGreatDoor

namespace Go.Proofs.YtlmlopdakbbbjaaGreatDoor
open Go.RowKit

/-- What is read of a row is just its cells, whatever is looked at. -/
theorem rowC_sel (l : List Cel) (q : Nat) (r : List UInt8) (hs : rising l = true) : rowC l q r = selC q r l := by
  have hS := srt_of hs
  have hp : ∀ p ∈ parts l, Srt p := by
    have h2 := hS
    unfold Srt at h2
    rw [← parts_flat l] at h2
    exact fun p hp => (List.pairwise_flatten.1 h2).1 p hp
  unfold rowC lookP
  by_cases hm : mayL (filt l) r = true
  · rw [if_pos hm]
    unfold selC
    rw [sel_parts _ _ hp, parts_flat]
  · rw [if_neg hm]
    unfold selC
    have : l.filter (fun c => c.row == r) = [] := by
      rw [List.filter_eq_nil_iff]
      intro c hc he
      have he : c.row = r := by simpa using he
      exact hm (may_has _ _ _ (by rw [← he]; exact rows_all l c hc))
    rw [this]
    rfl
theorem overC_row (q : Nat) (c : Cel) : (overC q c).row = c.row := by unfold overC; split <;> rfl
theorem sel_seen (l : List Cel) (q : Nat) (r : List UInt8) : (l.map (overC q)).filter (fun c => c.row == r) = selC q r l := by
  unfold selC
  rw [List.filter_map]
  congr 1
  apply List.filter_congr
  intro c _
  simp [overC_row]
set_option maxRecDepth 100000 in
set_option maxHeartbeats 1000000 in
theorem range_any (g : Nat) (l : List Cel) (q : Nat) (hne : l ≠ []) (hl : l.length ≤ 100000) (w : World) (h : Tbl w g l q) :
    Calls Tryz.prog 36 #[.pointer (some ⟨g, 0, none⟩)] w fun e w' => e = .returned (.tuple #[.string (B (firstR l)), .string (B (lastR l))]) ∧ Old w w' := by
  obtain ⟨v, hB, A, cap, rfl, -, hC⟩ := h
  obtain ⟨b, off, rfl, hCA⟩ := hC hne
  obtain ⟨z0, z1, z2, z3, z4, z5⟩ := hB.six
  go_enter Tryz.func36, Tryz.ntmps36
  go_wp2_with fail
  refine (ends_any b off cap l hne hl _ hCA).mono ?_
  rintro e w1 ⟨rfl, k1⟩
  go_wp2
  go_ret2
  exact ⟨rfl, k1⟩
set_option maxRecDepth 100000 in
set_option maxHeartbeats 4000000 in
theorem rrow_any (v : Value) (l : List Cel) (r : List UInt8) (w : World) (h : CelC w v l) (hl : l.length ≤ 1000) :
    Calls Tryz.prog 39 #[v, .string (B r)] w fun e w' => ∃ v', e = .returned v' ∧ OwnC w' w.heap.size v' (l.filter fun c => c.row == r) ∧ Old w w' := by
  obtain ⟨A, cap, rfl, -, hC⟩ := h
  go_enter Tryz.func39, Tryz.ntmps39
  go_wp2_with fail
  go_loopw [5, 6] (fun vo i wr => ∃ k : Nat, k ≤ l.length ∧ i = .int .i64 k ∧ OwnC wr w.heap.size vo ((l.take k).filter fun c => c.row == r) ∧ Old w wr) (fun _ i _ => l.length - (intOf i).toNat)
  case atStart => exact ⟨0, Nat.zero_le _, rfl, own_empty (new_bk _ _ _) (Nat.le_refl _), old_alloc _ _⟩
  case round =>
    obtain ⟨k, hk, rfl, ho, hw⟩ := hrel
    by_cases h1 : k < l.length
    · obtain ⟨b, off, rfl, hA⟩ := hC (by rintro rfl; simp at h1)
      have hx := (hA.at_ k h1).old hw
      have HT := Lib.hid (show (l.take (k + 1)).filter (fun c => c.row == r) = (l.take k).filter (fun c => c.row == r) ++ (if (l[k].row == r) = true then [l[k]] else []) by
        rw [List.take_succ_eq_append_getElem h1, List.filter_append]
        cases hq : (l[k].row == r) <;> simp [hq])
      have hfl : ((l.take k).filter fun c => c.row == r).length ≤ 1000 := Nat.le_trans (List.length_filter_le _ _) (by simp; omega)
      generalize l[k] = d at *
      obtain ⟨a0, a1, a2, a3, a4, a5⟩ := hx.held
      have i1 : (k : Int) < (l.length : Int) := by omega
      by_cases hr : d.row = r
      · have HT2 := Lib.hid (show (l.take (k + 1)).filter (fun c => c.row == r) = (l.take k).filter (fun c => c.row == r) ++ [d] by rw [HT.out, if_pos (by simpa using hr)])
        clear HT hx
        obtain ⟨dr, dc, dt, ds, dd, dv⟩ := d
        have hr2 : r = dr := hr.symm
        clear hr
        subst hr2
        dsimp only at a0 a1 a2 a3 a4 a5
        go_wp2_with (at_builtin; refine wp_cels rfl (.tmp 21) (.tmp 26) rfl (W0 := w) (hw.al _) _ _ [⟨r, dc, dt, ds, dd, dv⟩] rfl (ho.old (old_alloc _ _)) 0 _ rfl (own_one (c := ⟨r, dc, dt, ds, dd, dv⟩) (new_bk _ _ _) (Nat.zero_le _)) (by simp only [List.length_cons, List.length_nil]; omega) ?_; intro v4 w4 n4 o4)
        go_roundw
        case rel => exact ⟨k + 1, by omega, by go_num, by rw [HT2.out]; exact n4, o4⟩
        case measure => simp [intOf]; omega
      · have HT2 := Lib.hid (show (l.take (k + 1)).filter (fun c => c.row == r) = (l.take k).filter (fun c => c.row == r) by rw [HT.out, if_neg (by simpa using hr), List.append_nil])
        have hbe : (d.row == r) = false := by simpa using hr
        clear HT hr
        go_wp2
        go_roundw
        case rel => exact ⟨k + 1, by omega, by go_num, by rw [HT2.out]; exact ho, hw⟩
        case measure => simp [intOf]; omega
    · have e : k = l.length := by omega
      subst e
      rw [List.take_length] at ho
      go_wp2
      go_ret
      exact ⟨_, rfl, ho, hw⟩

/-- append(v, x..) of cells that lie somewhere: what comes of it. -/
theorem wp_celsA {ops : Array Oper} {rest : List Oper} {op : Oper} {a : Act} {Q : Exit → Act → World → Prop} {W0 w : World} (hgd : op.guard = none) (s x : Operand)
    (ho : op.op = .call { callee := .builtin .append, args := #[s, x], argTypes := #[22, 22] })
    (o : Old W0 w) (v : Value) (xs news : List Cel) (hs : a.eval s = v) (hown : OwnC w W0.heap.size v xs) (b off m c : Nat) (hx : a.eval x = .slice (some ⟨b, off, none⟩) m c) (hm : m = news.length) (hnews : CelsAt w b off news) (hlen : xs.length + news.length ≤ 100000)
    (h : ∀ v' w', OwnC w' W0.heap.size v' (xs ++ news) → Old W0 w' → wpList Tryz.prog ops Q rest (a.put op.dst v') w') : wpList Tryz.prog ops Q (op :: rest) a w := by
  obtain ⟨i0, hi, hz0, hz1, hz2⟩ := info_parts Tryz.infoCell
  subst hm
  obtain ⟨v', w', hr, h2, h3, -, -⟩ := run_append_own_at (P := Tryz.prog) w W0.heap.size 22 op.type 34 i0 (.agg zeroCell) 6 72 Tryz.underlying22 hi hz0 hz1 hz2 rfl (by decide) v xs.length (flat xs) hown ⟨b, off, none⟩ news.length c (flat news) (flat_len _) (cels_news hnews) (flat_one _) (by unfold maxLen; omega) (by omega) o.size
  refine wpList_plain hgd fun K hK => ?_
  unfold Oper.wp execOp
  simp only [ho, resolve, invoke, builtin, Sem.run_bind, Sem.run_pure, Result.andThen_ok, List.map_toArray, List.map_cons, List.map_nil, hs, hx, hr]
  refine hK _ _ (h v' w' ?_ (o.trans ((Below.refl _ _).grown h3 o.size (fun k hk => (World.ownsRow.lt hown k hk).1))))
  unfold OwnC
  rw [flat_app, List.length_append]
  exact h2
/-- The cells as they are read, so far. -/
def seenTo (q : Nat) (l : List Cel) (k : Nat) : List Cel := (l.take k).map (overC q) ++ l.drop k
theorem set1 (A R : List Value) (z0 z1 z2 z3 u : Value) : (A ++ z0 :: z1 :: z2 :: z3 :: R).set (A.length + 3) u = A ++ z0 :: z1 :: z2 :: u :: R := by
  induction A with
  | nil => rfl
  | cons a A ih =>
    simp only [List.cons_append, List.length_cons, Nat.add_right_comm _ 1, List.set_cons_succ]
    rw [ih]
theorem seenTo_set (q : Nat) (hq : q ≠ 0) (l : List Cel) (k : Nat) (h : k < l.length) : (flat (seenTo q l k)).set (k * 6 + 3) (.int .u64 q) = flat (seenTo q l (k + 1)) := by
  have h1 : (flat ((l.take k).map (overC q))).length = k * 6 := by rw [flat_len, List.length_map, List.length_take]; omega
  have e1 : seenTo q l k = (l.take k).map (overC q) ++ l[k] :: l.drop (k + 1) := by
    unfold seenTo
    rw [← List.drop_eq_getElem_cons h]
  have e2 : seenTo q l (k + 1) = (l.take k).map (overC q) ++ overC q l[k] :: l.drop (k + 1) := by
    unfold seenTo
    rw [List.take_succ_eq_append_getElem h, List.map_append]
    simp
  rw [e1, e2, flat_app, flat_app, flat_cons, flat_cons]
  generalize flat ((l.take k).map (overC q)) = A at *
  generalize flat (l.drop (k + 1)) = R
  generalize l[k] = c
  rw [show overC q c = ⟨c.row, c.col, c.ts, q, c.del, c.val⟩ from if_neg hq, ← h1]
  exact set1 A _ _ _ _ _ _
set_option maxRecDepth 100000 in
set_option maxHeartbeats 4000000 in
theorem rseen_any (v : Value) (l : List Cel) (q : Nat) (w : World) (h : CelC w v l) (hne : l ≠ []) (hl : l.length ≤ 1000) :
    Calls Tryz.prog 37 #[v, .int .u64 q] w fun e w' => ∃ v', e = .returned v' ∧ OwnC w' w.heap.size v' (l.map (overC q)) ∧ Old w w' := by
  obtain ⟨A, cap, rfl, -, hC⟩ := h
  obtain ⟨b, off, rfl, hA⟩ := hC hne
  clear hC
  have hlp := List.length_pos_iff.2 hne
  go_enter Tryz.func37, Tryz.ntmps37
  go_wp2_with (at_builtin; refine wp_celsA rfl (.tmp 7) (.tmp 8) rfl (W0 := w) (old_alloc _ _) _ [] l rfl (own_empty (new_bk _ _ _) (Nat.le_refl _)) b off l.length cap rfl rfl (hA.old (old_alloc _ _)) (by simp only [List.length_nil]; omega) ?_; intro v1 w1 n1 o1; rw [List.nil_append] at n1)
  rcases n1.2 with ⟨-, h0⟩ | ⟨g, cap1, cur, rfl, hg, hB, hnc, hcm, hcs, htk⟩
  · omega
  by_cases hq : q = 0
  · subst hq
    have hz : ((0 : Nat) : Int) = 0 := rfl
    refine wp_loop_rounds 1 ?_
    rw [rounds_succ]
    go_wp2
    go_ret
    refine ⟨_, rfl, ?_, o1⟩
    rw [show l.map (overC 0) = l from by rw [show overC 0 = id from by funext c; exact overC_zero c, List.map_id]]
    exact n1
  have hq2 : ((q : Int) != 0) = true := by rw [bne_iff_ne]; omega
  go_loopw [6] (fun i wr => ∃ (k : Nat) (cu : Array Value), k ≤ l.length ∧ i = .int .i64 k ∧ Bk wr g 34 cu ∧ cu.size = cap1 * 6 ∧ Hid (cu.toList.take (l.length * 6) = flat (seenTo q l k)) ∧ Old w wr) (fun i _ => l.length - (intOf i).toNat)
  case atStart => exact ⟨0, cur, Nat.zero_le _, rfl, hB, hcs, Lib.hid (by rw [htk]; rfl), o1⟩
  case round =>
    obtain ⟨k, cu, hk, rfl, hBk, hsz, HC, hw⟩ := hrel
    by_cases h1 : k < l.length
    · have i1 : (k : Int) < (l.length : Int) := by omega
      have hidx : k * 6 + 3 < cu.size := by rw [hsz]; omega
      have hcell := hBk.cell (k * 6 + 3)
      rw [Array.getElem?_eq_getElem hidx] at hcell
      generalize cu[k * 6 + 3] = u at *
      have hfr := hBk.fr (k * 6 + 3)
      have HS := Lib.hid (seenTo_set q hq l k h1)
      clear hidx
      go_wp2
      go_roundw
      case rel =>
        refine ⟨k + 1, cu.setIfInBounds (k * 6 + 3) (.int .u64 q), by omega, by go_num, hBk.set_ _ _, by simpa using hsz, Lib.hid ?_, hw.st hg _⟩
        rw [Array.toList_setIfInBounds, List.take_set, HC.out, HS.out]
      case measure => simp [intOf]; omega
    · have e : k = l.length := by omega
      subst e
      have hI : decide ((l.length : Int) < (l.length : Int)) = false := by simp
      go_wp2
      go_ret
      refine ⟨_, rfl, ⟨flat_len _, .inr ⟨g, cap1, cu, by simp, hg, hBk, by simpa using hnc, hcm, hsz, ?_⟩⟩, hw⟩
      rw [List.length_map, HC.out]
      unfold seenTo
      simp
end Go.Proofs.YtlmlopdakbbbjaaGreatDoor

namespace Go.Proofs.YtlmlopdakbbbjaaGreatDoor
open Go.RowKit

theorem ge_three (row la : List UInt8) : (Op.bytesLess row la || la == row) = (Op.bytesLess row la || row == la) ∧ Op.bytesLess la row = !(Op.bytesLess row la || row == la) := by
  have hs : (la == row) = (row == la) := by
    by_cases h : row = la
    · subst h; rfl
    · rw [beq_eq_false_iff_ne.2 h, beq_eq_false_iff_ne.2 (fun e => h e.symm)]
  refine ⟨by rw [hs], ?_⟩
  cases h1 : Op.bytesLess la row with
  | true =>
    have e1 := (less_cmp la row).1 h1
    have hn := cmpT_neg la row
    have h2 : Op.bytesLess row la = false := by
      cases h : Op.bytesLess row la with
      | false => rfl
      | true => have := (less_cmp row la).1 h; omega
    have h3 : (row == la) = false := by
      rw [beq_eq_false_iff_ne]
      rintro rfl
      rw [h1] at h2; cases h2
    rw [h2, h3]; rfl
  | false =>
    by_cases h3 : row = la
    · subst h3; simp
    · have h2 : Op.bytesLess row la = true := by
        cases h : Op.bytesLess row la with
        | true => rfl
        | false =>
          exfalso
          have e1 : cmpT row la = 1 := by unfold cmpT; rw [if_neg (by rw [h]; decide), if_neg h3]
          have e2 : cmpT la row = 1 := by unfold cmpT; rw [if_neg (by rw [h1]; decide), if_neg (fun e => h3 e.symm)]
          have hn := cmpT_neg la row
          omega
      rw [h2]; rfl
set_option maxRecDepth 100000 in
set_option maxHeartbeats 8000000 in
theorem rlooks_any (v : Value) (l : List Cel) (row : List UInt8) (w : World) (h : CelC w v l) (hl : l.length ≤ 1000) (hr : row.length ≤ 100000) (hrow : ∀ c ∈ l, c.row.length ≤ 100000) :
    Calls Tryz.prog 40 #[v, .string (B row)] w fun e w' => e = .returned (.int .i64 ((lookP l row).length : Nat)) ∧ Old w w' := by
  have hfl := (filt_len l (by omega)).2
  have HL := Lib.hid (show lookP l row = if mayL (filt l) row = true then (parts l).filter (inP row) else [] from rfl)
  have hpl := parts_len l
  have HE := Lib.hid (parts_each l)
  have hrl : ∀ t ∈ rowsOf l, t.length ≤ 100000 := fun t ht => by
    obtain ⟨c, hc, rfl⟩ := rowsOf_mem l t ht
    exact hrow c hc
  have hrn : (rowsOf l).length ≤ 2000 := by have := Lib.compact_length_le (l.map (·.row)); rw [List.length_map] at this; unfold rowsOf; omega
  have HF := Lib.hid (show makeL (rowsOf l) 10 = filt l from rfl)
  go_enter Tryz.func40, Tryz.ntmps40
  go_wp2_with fail
  refine (rrows_any v l _ h hl).mono ?_
  rintro e w1 ⟨vr, rfl, hR, k1⟩
  obtain ⟨Ar, cr, rfl, hS⟩ := strs_of_own hR (fun t ht => by have := hrl t ht; omega)
  clear hR
  generalize rowsOf l = rs at *
  go_wp2_with fail
  refine (rmake_any rs Ar cr 10 (by omega) (by omega) hrn hrl _ hS).mono ?_
  rintro e w2 ⟨rfl, k2⟩
  rw [HF.out]
  have o2 := k1.tr k2
  clear k1 k2 hS hrn hrl HF
  go_wp2_with fail
  refine (b_rmay_any (filt l) row (by omega) hr _).mono ?_
  rintro e w3 ⟨rfl, k3⟩
  have o3 := o2.tr k3
  clear o2 k3
  cases hm : mayL (filt l) row with
  | false =>
    have HL2 := Lib.hid (show lookP l row = [] by rw [HL.out, hm]; rfl)
    go_wp2
    go_ret
    exact ⟨by rw [HL2.out]; rfl, o3⟩
  | true =>
    have HL2 := Lib.hid (show lookP l row = (parts l).filter (inP row) by rw [HL.out, if_pos hm])
    have h3 := h.old o3
    clear HL hm h
    go_wp2_with fail
    refine (rparts_any v l _ h3 (by omega)).mono ?_
    rintro e w4 ⟨vp, rfl, hP, k4⟩
    obtain ⟨A, cap, rfl⟩ := hP.form
    have o4 := o3.tr k4
    clear o3 k4 h3
    generalize hq : parts l = ps at *
    have hps : ps.length ≤ 251 := by omega
    clear hq hpl
    go_wp2_with fail
    go_loopw [7, 9] (fun vn i wr => ∃ k : Nat, k ≤ ps.length ∧ i = .int .i64 k ∧ vn = .int .i64 (((ps.take k).filter (inP row)).length : Nat) ∧ Old w4 wr) (fun _ i _ => ps.length - (intOf i).toNat)
    case atStart => exact ⟨0, Nat.zero_le _, rfl, rfl, Old.re _⟩
    case round =>
      obtain ⟨k, hk, rfl, rfl, hw⟩ := hrel
      by_cases hlt : k < ps.length
      · obtain ⟨gp, b, off, c, rfl, hc, hcl, hCA⟩ := (hP.old hw).at_ k hlt
        have HTk := Lib.hid (look_take ps row k hlt)
        have hM := HE.out _ (List.getElem_mem hlt)
        have hfl1 : ((ps.take k).filter (inP row)).length ≤ 251 := Nat.le_trans (List.length_filter_le _ _) (by simp; omega)
        generalize ps[k] = p at *
        have hp0 : 0 < p.length := List.length_pos_iff.2 hM.1
        have hp8 := hM.2.1
        obtain ⟨a0, -⟩ := (hCA.at_ 0 hp0).held
        obtain ⟨b0, -⟩ := (hCA.at_ (p.length - 1) (by omega)).held
        rw [Nat.zero_mul, Nat.add_zero] at a0
        have HI := Lib.hid (show inP row p = ((Op.bytesLess p[0].row row || p[0].row == row) && (Op.bytesLess row (p[p.length - 1]'(by omega)).row || row == (p[p.length - 1]'(by omega)).row)) by
          unfold inP leT firstR lastR
          rw [List.getElem?_eq_getElem hp0, List.getElem?_eq_getElem (by omega)]
          rfl)
        generalize p[0].row = f at *
        generalize (p[p.length - 1]'(by omega)).row = la at *
        have i0 : (0 : Int) < (p.length : Int) := by omega
        have i1 : (k : Int) < (ps.length : Int) := by omega
        have i2 : (p.length : Int) - 1 < (p.length : Int) := by omega
        have i3 : (0 : Int) ≤ (p.length : Int) - 1 := by omega
        have i4 : ((p.length : Int) - 1).toNat = p.length - 1 := by omega
        have i5 : (1 : Int) ≤ (p.length : Int) := by omega
        cases hx3 : (Op.bytesLess f row || f == row) with
        | false =>
          have HT2 := Lib.hid (show (ps.take (k + 1)).filter (inP row) = (ps.take k).filter (inP row) by rw [HTk.out, if_neg (by rw [HI.out, hx3]; simp), List.append_nil])
          go_wp2_with fail
          go_quiet (fail)
          go_wp2
          go_roundw
          case rel => exact ⟨k + 1, by omega, by go_num, by rw [HT2.out], hw.dn _⟩
          case measure => simp [intOf]; omega
        | true =>
          obtain ⟨g1, g2⟩ := ge_three row la
          cases hx4 : (Op.bytesLess row la || row == la) with
          | false =>
            have HT2 := Lib.hid (show (ps.take (k + 1)).filter (inP row) = (ps.take k).filter (inP row) by rw [HTk.out, if_neg (by rw [HI.out, hx3, hx4]; simp), List.append_nil])
            rw [hx4] at g1 g2
            simp only [Bool.not_false] at g2
            go_wp2_with fail
            go_quiet (fail)
            go_wp2
            go_roundw
            case rel => exact ⟨k + 1, by omega, by go_num, by rw [HT2.out], hw.dn _⟩
            case measure => simp [intOf]; omega
          | true =>
            have HT2 := Lib.hid (show (ps.take (k + 1)).filter (inP row) = (ps.take k).filter (inP row) ++ [p] by rw [HTk.out, if_pos (by rw [HI.out, hx3, hx4]; rfl)])
            rw [hx4] at g1 g2
            simp only [Bool.not_true] at g2
            go_wp2_with fail
            go_quiet (fail)
            go_wp2
            go_roundw
            case rel => exact ⟨k + 1, by omega, by go_num, by rw [HT2.out, List.length_append]; go_num, hw.dn _⟩
            case measure => simp [intOf]; omega
      · have e : k = ps.length := by omega
        subst e
        rw [List.take_length]
        go_wp2
        go_ret
        exact ⟨by rw [HL2.out]; rfl, o4.tr hw⟩
end Go.Proofs.YtlmlopdakbbbjaaGreatDoor

namespace Go.Proofs.YtlmlopdakbbbjaaGreatDoor
open Go.RowKit

set_option maxRecDepth 100000 in
set_option maxHeartbeats 8000000 in
theorem same5_any (g : Nat) (v : Value) (l : List Cel) (q : Nat) (row : List UInt8) (w : World) (hT : Tbl w g l q) (hv : CelC w v l) (hne : l ≠ []) (hl : l.length ≤ 1000) (hris : rising l = true) (hr : row.length ≤ 100000) (hrow : ∀ c ∈ l, c.row.length ≤ 100000) (ht : Tab w) :
    Calls Tryz.prog 10 #[.pointer (some ⟨g, 0, none⟩), v, .int .u64 q, .string (B row)] w fun e w' => e = .returned (.bool true) ∧ Old w w' := by
  have hv0 := hv
  obtain ⟨A, cap, rfl, -, hC⟩ := hv
  obtain ⟨b, off, rfl, hA⟩ := hC hne
  clear hC
  have hlp := List.length_pos_iff.2 hne
  have HSel := Lib.hid (sel_seen l q row)
  have HRow := Lib.hid (rowC_sel l q row hris)
  have hml : (l.map (overC q)).length = l.length := List.length_map _
  have hll : (lookP l row).length ≤ 251 := by have h1 := lookP_len l row; have h2 := parts_len l; omega
  go_enter Tryz.func10, Tryz.ntmps10
  go_wp2_with fail
  refine (range_any g l q hne (by omega) _ hT).mono ?_
  rintro e w1 ⟨rfl, k1⟩
  have hT1 := hT.old k1
  go_wp2_with fail
  refine (rseen_any _ l q _ (hv0.old k1) hne hl).mono ?_
  rintro e w2 ⟨v2, rfl, hO2, k2⟩
  have o2 := k1.tr k2
  have hT2 := hT1.old k2
  have hS2 := hO2.room
  clear k1 k2 hT hT1 hO2
  go_wp2_with fail
  refine (cells_any g l q _ hT2 (by omega)).mono ?_
  rintro e w3 ⟨v3, rfl, hO3, k3⟩
  have o3 := o2.tr k3
  have hT3 := hT2.old k3
  have hS3 := hS2.old k3
  have hC3 := hO3.cels
  clear o2 k3 hT2 hS2 hO3
  go_wp2_with fail
  refine (rsame_at v3 v2 _ _ hC3 hS3.cels (by rw [hml]; omega)).mono ?_
  rintro e w4 ⟨rfl, k4⟩
  have o4 := o3.tr k4
  have hT4 := hT3.old k4
  have hS4 := hS3.old k4
  clear o3 k4 hT3 hS3 hC3
  go_wp2_with fail
  refine (many_any g l q _ hT4).mono ?_
  rintro e w5 ⟨rfl, rfl⟩
  go_wp2_with fail
  refine (blocksN_any g l q _ hT4 (by omega)).mono ?_
  rintro e w5 ⟨rfl, k5⟩
  have o5 := o4.tr k5
  have hT5 := hT4.old k5
  have hS5 := hS4.old k5
  clear o4 k5 hT4 hS4
  go_wp2_with fail
  refine (rparts_any _ l _ (hv0.old o5) (by omega)).mono ?_
  rintro e w6 ⟨v6, rfl, hP6, k6⟩
  obtain ⟨A6, c6, rfl⟩ := hP6.form
  have o6 := o5.tr k6
  have hT6 := hT5.old k6
  have hS6 := hS5.old k6
  clear o5 k6 hT5 hS5 hP6
  go_wp2_with fail
  refine (seq_any g l q _ hT6).mono ?_
  rintro e w7 ⟨rfl, rfl⟩
  have hA6 := hA.old o6
  obtain ⟨a0, -⟩ := (hA6.at_ 0 hlp).held
  obtain ⟨b0, -⟩ := (hA6.at_ (l.length - 1) (by omega)).held
  rw [Nat.zero_mul, Nat.add_zero] at a0
  have HF := Lib.hid (show firstR l = l[0].row by unfold firstR; rw [List.getElem?_eq_getElem hlp]; rfl)
  have HLa := Lib.hid (show lastR l = (l[l.length - 1]'(by omega)).row by unfold lastR; rw [List.getElem?_eq_getElem (by omega)]; rfl)
  rw [← HF.out] at a0
  rw [← HLa.out] at b0
  generalize firstR l = f at *
  generalize lastR l = la at *
  have i0 : (0 : Int) < (l.length : Int) := by omega
  have i1 : (1 : Int) ≤ (l.length : Int) := by omega
  have i2 : (l.length : Int) - 1 < (l.length : Int) := by omega
  have i3 : (0 : Int) ≤ (l.length : Int) - 1 := by omega
  have i4 : ((l.length : Int) - 1).toNat = l.length - 1 := by omega
  clear HF HLa
  go_wp2_with fail
  refine (row_any g l q row _ hT6 (by omega) (by omega) (ht.old o6)).mono ?_
  rintro e w8 ⟨v8, b8, rfl, hO8, k8⟩
  have o8 := o6.tr k8
  have hT8 := hT6.old k8
  have hS8 := hS6.old k8
  clear o6 k8 hT6 hS6 a0 b0 hA6
  go_wp2_with fail
  refine (rrow_any v2 (l.map (overC q)) row _ hS8 (by rw [hml]; omega)).mono ?_
  rintro e w9 ⟨v9, rfl, hO9, k9⟩
  have o9 := o8.tr k9
  have hT9 := hT8.old k9
  have hC8 := hO8.cels.old k9
  have hC9 := hO9.cels
  rw [HSel.out] at hC9
  rw [HRow.out] at hC8
  clear o8 k9 hT8 hS8 hO8 hO9
  have hsl := selC_len q row l
  go_wp2_with fail
  refine (rsame_at v8 v9 _ _ hC8 hC9 (by omega)).mono ?_
  rintro e wa ⟨rfl, ka⟩
  have oa := o9.tr ka
  have hTa := hT9.old ka
  clear o9 ka hT9 hC8 hC9
  go_wp2_with fail
  refine (looks_any g l q row _ hTa (by omega) (by omega) (ht.old oa)).mono ?_
  rintro e wb ⟨rfl, kb⟩
  have ob := oa.tr kb
  clear oa kb hTa
  go_wp2_with fail
  refine (rlooks_any _ l row _ (hv0.old ob) hl hr hrow).mono ?_
  rintro e wc ⟨rfl, kc⟩
  have oc := ob.tr kc
  go_wp2
  go_ret
  exact ⟨rfl, oc⟩
end Go.Proofs.YtlmlopdakbbbjaaGreatDoor
