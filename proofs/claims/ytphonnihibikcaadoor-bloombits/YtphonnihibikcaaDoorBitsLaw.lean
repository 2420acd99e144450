/-
  BloomBits: whatever comes in, the law answers true, and leaves all as it was. Condition: the table is laid as the program's text lays it.
-/
import Derived.Test.YtphonnihibikcaaDoorLift
import Derived.Test.YtphonnihibikcaaDoorCount
import Derived.Test.YtphonnihibikcaaDoorRefMay
import Derived.Maps.Own
import Derived.Maps.OwnOps
import Derived.Maps.OwnSet
namespace Go.Proofs.YtphonnihibikcaaDoor
open Go.ChangeShapes Go.WideShapes Go.ChangeAt Go.RowKit Go.Joins Go.Deep Go.Maps

theorem lawInt : Keyed Tryd.prog 3 := int_keyed Tryd.underlying3
theorem zeroInt (w : World) : (zeroValue 3).run Tryd.prog w = .ok (.int .i64 0) w := by kernel_rfl
theorem wf_nat (p : Nat) (h : p ≤ 1000000) : (Lit.int .i64 (p : Int)).wf = true := WalkArith.wf_i64 (by omega)
/-- A map of the call's own whose keys, of those below M, are just these. -/
def CM (w : World) (M g n : Nat) (ps : List Nat) : Prop :=
  ∃ D : DataW Unit, w.ownsMap Tryd.prog 3 (plainElem Tryd.prog 3) g n D ∧ Maps.size D = cntIn M ps ∧ ∀ p : Nat, p < M → Maps.has D (.int .i64 (p : Int)) = ps.contains p
theorem CM.made (w : World) (M : Nat) : CM (w.alloc (.map #[] 0)) M w.heap.size 0 [] := by
  refine ⟨_, World.ownsMap_made _ _ _ _, ?_, fun p _ => rfl⟩
  rw [cntIn_nil]
  rfl
theorem ownsMap_old {w W : World} {P : Program} {k : TypeId} {R : Value → Option (DataW Unit × List MemPlace)} {b n : Nat} {D : DataW Unit} (h : w.ownsMap P k R b n D) (hO : Old w W) : W.ownsMap P k R b n D := by
  obtain ⟨es, c, h1, h2⟩ := h
  exact ⟨es, c, (hO.block b (lt_of_block h1)).trans h1, h2⟩
theorem CM.old {w W : World} {M g n : Nat} {ps : List Nat} (h : CM w M g n ps) (hO : Old w W) : CM W M g n ps := by
  obtain ⟨D, h1, h2⟩ := h
  exact ⟨D, ownsMap_old h1 hO, h2⟩
theorem CM.put {w : World} {M g n : Nat} {ps : List Nat} {D : DataW Unit} {p : Nat} (hp : p < M) {d : DataW Unit} (hk : WideAt.IsKeyLit (.int .i64 (p : Int)))
    (ht : Tidy D) (hs : Maps.size D = cntIn M ps) (hh : ∀ p : Nat, p < M → Maps.has D (.int .i64 (p : Int)) = ps.contains p)
    (ho : w.ownsMap Tryd.prog 3 (plainElem Tryd.prog 3) g n (D.put (.int .i64 (p : Int)) d)) : CM w M g n (ps ++ [p]) := by
  refine ⟨_, ho, ?_, fun q hq => ?_⟩
  · rw [size_put ht, hs, cntIn_snoc _ _ _ hp, hh p hp]
    cases ps.contains p <;> rfl
  · by_cases e : q = p
    · subst e
      rw [has_put_same ht.isMap hk]
      simp
    · rw [has_put_other (fun h => e (by injection h; omega)), hh q hq]
      simp [e]

set_option maxRecDepth 10000 in
set_option maxHeartbeats 4000000 in
theorem law_bits (names : List (List UInt8)) (A : Option Addr) (cap : Nat) (b : Nat) (hc : cap ≤ maxLen) (hb : b < 256) (w : World) (hS : Strs w A cap names) (h : Tab w) :
    Calls Tryd.prog 8 #[.slice A names.length cap, .int .u8 b] w fun e w' => e = .returned (.bool true) ∧ Old w w' := by
  have hbd := bounded_any names A cap w hS hc
  have hmm := @run_makeMap Tryd.prog
  go_enter Tryd.func8, Tryd.ntmps8
  go_wp2_with fail
  refine hbd.mono ?_
  clear hbd
  rintro e w1 ⟨rfl, rfl⟩
  by_cases hb1 : boundL names = true
  · obtain ⟨hn, hls⟩ := boundL_get hb1
    have hls2 : ∀ l ∈ names, l.length ≤ 100000 := fun l hl => by have := hls l hl; omega
    rw [hb1]
    obtain ⟨n, hnn⟩ : ∃ n, n = 1 + b % 64 := ⟨_, rfl⟩
    have hnI : (1 : Int) + (b : Int) % 64 = (n : Int) := by omega
    have HK := Lib.hid fun w' => make_any names A cap n (by omega) (by omega) (by omega) hls2 w'
    have hfl := makeL_length names n
    have HF := Lib.hid (full_make names n)
    rw [← hfl] at HF
    have hsz := sizeL_le names.length n (by omega) (by omega)
    rw [← hfl] at hsz
    generalize makeL names n = f at *
    have HLS := Lib.hid hls2
    clear hb1 hfl hnn hls hls2
    go_wp2_with fail
    refine (shown_any _ h).mono ?_
    rintro e w1 ⟨rfl, o1⟩
    go_wp2_with fail
    refine (HK.out _ (hS.old o1) (h.old o1)).mono ?_
    rintro e w2 ⟨rfl, o2⟩
    have o3 := o1.tr o2
    have hgM := o3.size
    have hcm := CM.made w2 (8 * f.length)
    have o4 := o3.al (.map #[] 0)
    clear o1 o2 o3 HK
    go_wp2_with fail
    generalize w2.heap.size = gM at *
    go_loopw [8] (fun i wr => ∃ k : Nat, k ≤ names.length ∧ i = .int .i64 k ∧ CM wr (8 * f.length) gM (4 * k) (allP (names.take k) (8 * f.length)) ∧ Old w wr) (fun i _ => names.length - (intOf i).toNat)
    case atStart => exact ⟨0, Nat.zero_le _, rfl, hcm, o4⟩
    case round =>
      clear hcm o4
      obtain ⟨k, hk, rfl, hcm, hO⟩ := hrel
      by_cases hlt : k < names.length
      · obtain ⟨hm1, bb, off, rfl, hcl⟩ := hS.at_ k hlt
        have hcl2 := cell_old hcl hO
        have hnl := HLS.out _ (List.getElem_mem hlt)
        have HA := Lib.hid (allP_snoc names k hlt (8 * f.length))
        have HB := Lib.hid (bits_any names[k] (by omega) (8 * f.length) (by omega) wr (h.old hO))
        rw [← show (8 * (f.length : Int)) = ((8 * f.length : Nat) : Int) by omega] at HB
        clear hcl
        go_wp2_with fail
        refine HB.out.mono ?_
        rintro e w3 ⟨v, rfl, ho, hold⟩
        obtain ⟨A2, cap2, rfl, _⟩ := ho.shape
        have hpl := places_length names[k] (8 * f.length) (by omega)
        have hlp := fun j hj => places_lt names[k] (8 * f.length) _ (List.getElem_mem (n := j) hj)
        have hcm2 := hcm.old hold
        have hO2 := hO.tr hold
        have hgl : gM < wr.heap.size + 1 := by obtain ⟨D, h1, _⟩ := hcm; exact Nat.lt_succ_of_lt h1.lt
        generalize places names[k] (8 * f.length) = ps at *
        rw [hpl]
        generalize allP (names.take k) (8 * f.length) = qs at *
        clear hcm hO hold hcl2 HB
        generalize wr.heap.size + 1 = base at *
        go_wp2_with fail
        go_loopw [10] (fun i w4 => ∃ j : Nat, j ≤ 4 ∧ i = .int .i64 j ∧ CM w4 (8 * f.length) gM (4 * k + j) (qs ++ ps.take j) ∧ Ints w4 base (.slice A2 ps.length cap2) ps ∧ Old w w4) (fun i _ => 4 - (intOf i).toNat)
        case atStart => exact ⟨0, Nat.zero_le _, rfl, by simpa using hcm2, ho, hO2⟩
        case round =>
          clear hcm2 ho hO2
          obtain ⟨j, hj, rfl, hcm, ho, hO⟩ := hrel
          by_cases hjl : j < 4
          · obtain ⟨A3, cap3, he, hat⟩ := ho.shape
            have hq := hlp j (by omega)
            have HT := Lib.hid (show qs ++ ps.take (j + 1) = qs ++ ps.take j ++ [ps[j]] by rw [List.take_succ_eq_append_getElem (by omega), List.append_assoc])
            obtain ⟨g, rfl, hcell⟩ := hat.at_ j (by omega)
            simp only [Value.slice.injEq] at he
            obtain ⟨rfl, -, rfl⟩ := he
            obtain ⟨D, hD, hDs, hDh⟩ := hcm
            have HDs := Lib.hid hDs
            have HDh := Lib.hid hDh
            clear hat hDs hDh
            generalize ps[j] = p at *
            have hkey : keyOf Tryd.prog 3 (.int .i64 (p : Int)) = some (.int .i64 (p : Int)) := keyOf_int_mk Tryd.underlying3 (wf_nat p (by omega))
            go_wp2_with (first
              | (at_lookup; refine wpList_lookup_own_int _ rfl _ _ 37 rfl 3 3 .i64 lawInt Tryd.underlying37 Tryd.underlying3 (zeroInt _) gM (4 * k + j) _ rfl hD _ _ rfl hkey ?_; intro c hat hwc)
              | (at_mapUpdate; refine wpList_mapUpdate_own _ rfl _ _ _ 37 rfl 3 3 lawInt Tryd.underlying37 _ gM (4 * k + j) _ rfl hD (by unfold maxLen; omega) _ _ _ rfl rfl hkey _ [] (plainElem_int Tryd.underlying3 (wrap64_wf _)) ?_; intro w5 hD5 hg5)
              | fail)
            go_roundw
            case rel =>
              refine ⟨j + 1, by omega, by go_num, ?_, ?_, hO.grown hg5 hO.size (fun x hx => by cases hx; exact hgM)⟩
              · rw [HT.out]
                exact CM.put hq (lawInt.key hkey) (hD.tidy lawInt) HDs.out HDh.out hD5
              · refine World.ownsRow.kept ho hg5 (Or.inr fun hx => ?_)
                have hg := (World.ownsRow.lt ho g rfl).1
                have : g = gM := by simpa [Value.ownBlock] using hx
                omega
            case measure => simp [intOf]; omega
          · obtain rfl : j = 4 := by omega
            rw [List.take_of_length_le (by omega), ← HA.out] at hcm
            go_wp2
            go_roundw
            case rel => exact ⟨k + 1, by omega, by go_num, hcm, hO⟩
            case measure => simp [intOf]; omega
      · rw [List.take_of_length_le (by omega)] at hcm
        obtain ⟨D, hD, hDs, _⟩ := hcm
        rw [← HF.out] at hDs
        have hlen := fun ty => hD.len Tryd.underlying37 ty
        rw [hDs] at hlen
        have hff := full_any f (by omega) wr
        generalize full f = q at *
        have HFF := Lib.hid hff
        clear hff hD hDs
        go_wp2_with fail
        refine HFF.out.mono ?_
        rintro e w4 ⟨rfl, rfl⟩
        go_wp2
        go_ret
        exact ⟨rfl, hO⟩
  · have hb2 : boundL names = false := by simpa using hb1
    rw [hb2]
    clear hb1 hb2
    go_wp2_with fail
    refine (shown_any _ h).mono ?_
    rintro e w1 ⟨rfl, o1⟩
    go_wp2
    go_ret
    exact ⟨rfl, o1⟩

theorem bloomBits_contract (H : Type) (enc : TypeId × Value → H) (W : World) (base : Nat) (args : Array Value) (ds gs : List (DataW H)) (before : List MemPlace)
    (hval0 : ∀ (j : Nat) t v, Tryd.f8.params[j]? = some t → args[j]? = some v → Value.okWide Tryd.prog W .any base t v)
    (hW : DataW.Whole enc Tryd.prog Tryd.f8.params.toList Rows.bloomBitsSpec.vars false W args.toList ds gs before) (hL : laidMetH Tryd.prog Rows.bloomBitsRow.laid W) :
    Calls Tryd.prog 8 args W fun e W' => ∃ v, e = .returned v ∧ Rows.bloomBitsSpec.post enc Tryd.prog Tryd.f8 false true false false W args v W' := by
  have ht : Tab W := table hL
  have hval : ∀ (j : Nat) t v, Tryd.f8.params[j]? = some t → args[j]? = some v → Value.okWide Tryd.prog W .any base t v := hval0
  have hW' := hW
  obtain ⟨p, q, hA0, hV, rfl, hfz, hnd⟩ := hW
  have hA : DataW.TrodAll enc Tryd.prog W 0 (fun _ => true) true Tryd.f8.params.toList args.toList ds p := hA0
  rw [Tryd.params8] at hA hval
  obtain ⟨v0, v1, d0, d1, p0, p1, rfl, rfl, rfl, h0, h1⟩ := trodAll_two hA
  obtain ⟨rfl, rfl⟩ := trodVars_none hV
  have hlt : ∀ x ∈ p0 ++ (p1), x.block < W.heap.size := fun x hx => hW'.lt x (by simpa using hx)
  have k0 := h0
  have k1 := h1
  obtain ⟨a0, A0, c0, rfl, o0, m0⟩ := open_strs (hval 0 22 v0 rfl rfl) h0 (fun x hx => hlt x (by simp [hx]))
  obtain ⟨a1, rfl, o1⟩ := open_u8 (hval 1 5 v1 rfl rfl) h1
  clear hA0 hval0
  refine (law_bits a0 A0 c0 a1 m0 o1 W o0 ht).mono fun e W' ⟨he, hb⟩ => ?_
  subst he
  refine ⟨_, rfl, _, _, _, [], p0 ++ (p1), [], hW', trodAll_mk1 (shut_bool Tryd.underlying4 _), ?_, rfl, hb.frame _, fun h => by cases h⟩
  have r0 := Below.trod Tryd.laidOut (by kernel_rfl) (of_decide_eq_true (by kernel_rfl)) k0 hb (fun x hx => hlt x (by simp [hx]))
  have r1 := Below.trod Tryd.laidOut (by kernel_rfl) (of_decide_eq_true (by kernel_rfl)) k1 hb (fun x hx => hlt x (by simp [hx]))
  exact trodAll_mk2 r0 r1

theorem bloomBits_met (os : Os) : laidMet Tryd.prog Rows.bloomBitsRow.laid ((laidWorld os).forCall (fun _ _ => 0) ⟨#[], #[.slice none 0 0, .int .u8 0], []⟩).memory :=
  laidMet_of_run' 8 (by kernel_rfl) (by kernel_rfl)
theorem bloomBits_reads (os : Os) {H : Type} (enc : TypeId × Value → H) : ∃ places, DataW.whole enc Tryd.prog ((laidWorld os).forCall (fun _ _ => 0) ⟨#[], #[.slice none 0 0, .int .u8 0], []⟩).memory Tryd.f8.params.toList Rows.bloomBitsSpec.vars false (#[.slice none 0 0, .int .u8 0] : Array Value).toList 8 = some ([.nil, .lit (.int .u8 0)], [], places) :=
  ⟨[], by kernel_rfl⟩

set_option maxRecDepth 100000 in
theorem bloomBits_lifted (os : Os) (started : os.Started) (H : Type) (enc : TypeId × Value → H) (F : Stop.Interp) :
    ReturnsInHanded {} Tryd.checked os 8 .any ((OpenSpec.ofChange Rows.bloomBitsSpec).preRow enc Tryd.prog Tryd.f8 Rows.bloomBitsRow.domain false Rows.bloomBitsRow.laid) (((OpenSpec.ofChange Rows.bloomBitsSpec).at F).post enc Tryd.prog Tryd.f8 false true false false) := by
  obtain ⟨places, hx⟩ := bloomBits_reads os enc
  refine returnsInHanded_of_row (C := Tryd.checked) (s := OpenSpec.ofChange Rows.bloomBitsSpec) Tryd.own started (by kernel_rfl) Tryd.func8
    (witness_row_at (enc := enc) (C := Tryd.checked) false (laidWorld os) #[.slice none 0 0, .int .u8 0] rfl (by kernel_rfl) (by kernel_rfl) (by kernel_rfl)
      (OpenSpec.preRow_of_cond 8 hx (by kernel_rfl) (fun k hk => by cases hk) (by kernel_rfl) (bloomBits_met os))) ?_
  intro W base args ds gs before hval hW _ _ _ hL _ _
  exact bloomBits_contract H enc W base args ds gs before hval hW hL

theorem bloomBits_said : Rows.BloomBitsSaid :=
  OpenClaim.holds_of_cond 8 Tryd.f8 rfl rfl rfl rfl rfl rfl rfl ⟨rfl, rfl, rfl, rfl, rfl⟩ rfl rfl rfl rfl rfl (by kernel_rfl) Tryd.func8 (by kernel_rfl)
    (of_decide_eq_true (by kernel_rfl)) (by unfold Func.isWrapper; first | (rw [if_pos (by decide +kernel)]; kernel_rfl) | (rw [if_neg (by decide +kernel)]; exact ⟨rfl, rfl⟩))
    (fun os started H enc _ F => by rw [OpenClaim.pre_eq_preRow]; exact bloomBits_lifted os started H enc F)

theorem bloomBits_plain (f : FuncId) (fn : Func) (hf : Tryd.pinned.checked.prog.funcNamed Rows.bloomBitsRow.func = some f) (hfn : Tryd.pinned.checked.prog.funcs[f]? = some fn) :
    false = Tryd.pinned.checked.prog.looks [] ∧ ∀ (j : Nat) t, fn.params[j]? = some t → Tryd.pinned.checked.prog.wantsStandIn t = false := by
  obtain rfl : f = 8 := Option.some.inj ((show Tryd.prog.funcNamed Rows.bloomBitsRow.func = some 8 by kernel_rfl).symm.trans hf) |>.symm
  obtain rfl : fn = Tryd.f8 := (Option.some.inj (Tryd.func8.symm.trans hfn)).symm
  refine ⟨by kernel_rfl, fun j t ht => ?_⟩
  rw [Tryd.params8] at ht
  have hm := Array.mem_of_getElem? ht
  simp only [List.mem_toArray, List.mem_cons, List.not_mem_nil, or_false] at hm
  rcases hm with rfl | rfl
  all_goals first
    | exact (show Tryd.prog.wantsStandIn 22 = false by kernel_rfl)
    | exact (show Tryd.prog.wantsStandIn 5 = false by kernel_rfl)

theorem bloomBits_card : Rows.BloomBitsCardSaid :=
  Claim7.holds_tied_plain_at .later [] _ _ _ _ bloomBits_said (fun _ h => by cases h) (by kernel_rfl) (fun _ h => by cases h) bloomBits_row_tie rfl ⟨rfl, rfl⟩ (by kernel_rfl) rfl bloomBits_plain (by kernel_rfl)
#print axioms bloomBits_card
end Go.Proofs.YtphonnihibikcaaDoor
