/-
  BloomHas: whatever comes in, the law answers true, and leaves all as it was. Condition: the table is laid as the program's text lays it.
-/
import Derived.Test.YtphonnihibikcaaDoorLift
import Derived.Test.YtphonnihibikcaaDoorCount
namespace Go.Proofs.YtphonnihibikcaaDoor
open Go.ChangeShapes Go.WideShapes Go.ChangeAt Go.RowKit Go.Joins Go.Deep

set_option maxHeartbeats 4000000 in
theorem law_has (names : List (List UInt8)) (A : Option Addr) (cap : Nat) (b : Nat) (hc : cap ≤ maxLen) (hb : b < 256) (w : World) (hS : Strs w A cap names) (h : Tab w) :
    Calls Tryd.prog 5 #[.slice A names.length cap, .int .u8 b] w fun e w' => e = .returned (.bool true) ∧ Old w w' := by
  have hbd := bounded_any names A cap w hS hc
  go_enter Tryd.func5, Tryd.ntmps5
  go_wp2_with fail
  refine hbd.mono ?_
  clear hbd
  rintro e w1 ⟨rfl, rfl⟩
  by_cases hb1 : boundL names = true
  · obtain ⟨hn, hls⟩ := boundL_get hb1
    have hls2 : ∀ l ∈ names, l.length ≤ 100000 := fun l hl => by have := hls l hl; omega
    rw [hb1]
    obtain ⟨n, hnn⟩ : ∃ n, n = 1 + b % 64 := ⟨_, rfl⟩
    have hnI : (1 : Int) + (b : Int) % 64 = (n : Int) := by omega
    have HK := Lib.hid fun w' => make_any names A cap n (by omega) (by omega) (by omega) hls2 w'
    have HF4 := Lib.hid (full_le4 names n)
    have HH := Lib.hid (may_has names n)
    have hfl := makeL_length names n
    have hsz := sizeL_le names.length n (by omega) (by omega)
    rw [← hfl] at hsz
    generalize makeL names n = f at *
    clear hb1 hfl hnn
    go_wp2_with fail
    refine (shown_any _ h).mono ?_
    rintro e w1 ⟨rfl, o1⟩
    go_wp2_with fail
    refine (HK.out _ (hS.old o1) (h.old o1)).mono ?_
    rintro e w2 ⟨rfl, o2⟩
    have o3 := o1.tr o2
    have HLS := Lib.hid hls2
    clear o1 o2 HK hls hls2
    go_wp2_with fail
    go_loopw [7] (fun i wr => ∃ k : Nat, k ≤ names.length ∧ i = .int .i64 k ∧ Old w wr) (fun i _ => names.length - (intOf i).toNat)
    case atStart => exact ⟨0, Nat.zero_le _, rfl, o3⟩
    case round =>
      clear o3
      obtain ⟨k, hk, rfl, o3⟩ := hrel
      by_cases hlt : k < names.length
      · obtain ⟨hm1, bb, off, rfl, hcl⟩ := hS.at_ k hlt
        have hcl2 := cell_old hcl o3
        have HL := Lib.hid (HH.out _ (List.getElem_mem hlt))
        have hnl := HLS.out _ (List.getElem_mem hlt)
        clear hcl
        go_wp2_with fail
        refine (may_any f names[k] (by omega) (by omega) _ (h.old o3)).mono ?_
        rintro e w4 ⟨rfl, o4⟩
        rw [HL.out]
        have o5 := o3.tr o4
        clear o3 o4
        go_wp2
        go_roundw
        case rel => exact ⟨k + 1, by omega, by go_num, o5⟩
        case measure => simp [intOf]; omega
      · go_wp2_with fail
        have hff := full_any f (by omega) wr
        have hf4 := HF4.out
        generalize full f = q at *
        have HF := Lib.hid hff
        clear hff
        refine HF.out.mono ?_
        rintro e w4 ⟨rfl, rfl⟩
        by_cases h0 : 0 < names.length
        · go_wp2
          go_ret
          exact ⟨rfl, o3⟩
        · obtain rfl : q = 0 := by omega
          go_wp2_with fail
          refine HF.out.mono ?_
          rintro e w4 ⟨rfl, rfl⟩
          go_wp2
          go_ret
          exact ⟨rfl, o3⟩
  · have hb2 : boundL names = false := by simpa using hb1
    rw [hb2]
    clear hb1 hb2
    go_wp2_with fail
    refine (shown_any _ h).mono ?_
    rintro e w1 ⟨rfl, o1⟩
    go_wp2
    go_ret
    exact ⟨rfl, o1⟩

theorem bloomHas_contract (H : Type) (enc : TypeId × Value → H) (W : World) (base : Nat) (args : Array Value) (ds gs : List (DataW H)) (before : List MemPlace)
    (hval0 : ∀ (j : Nat) t v, Tryd.f5.params[j]? = some t → args[j]? = some v → Value.okWide Tryd.prog W .any base t v)
    (hW : DataW.Whole enc Tryd.prog Tryd.f5.params.toList Rows.bloomHasSpec.vars false W args.toList ds gs before) (hL : laidMetH Tryd.prog Rows.bloomHasRow.laid W) :
    Calls Tryd.prog 5 args W fun e W' => ∃ v, e = .returned v ∧ Rows.bloomHasSpec.post enc Tryd.prog Tryd.f5 false true false false W args v W' := by
  have ht : Tab W := table hL
  have hval : ∀ (j : Nat) t v, Tryd.f5.params[j]? = some t → args[j]? = some v → Value.okWide Tryd.prog W .any base t v := hval0
  have hW' := hW
  obtain ⟨p, q, hA0, hV, rfl, hfz, hnd⟩ := hW
  have hA : DataW.TrodAll enc Tryd.prog W 0 (fun _ => true) true Tryd.f5.params.toList args.toList ds p := hA0
  rw [Tryd.params5] at hA hval
  obtain ⟨v0, v1, d0, d1, p0, p1, rfl, rfl, rfl, h0, h1⟩ := trodAll_two hA
  obtain ⟨rfl, rfl⟩ := trodVars_none hV
  have hlt : ∀ x ∈ p0 ++ (p1), x.block < W.heap.size := fun x hx => hW'.lt x (by simpa using hx)
  have k0 := h0
  have k1 := h1
  obtain ⟨a0, A0, c0, rfl, o0, m0⟩ := open_strs (hval 0 22 v0 rfl rfl) h0 (fun x hx => hlt x (by simp [hx]))
  obtain ⟨a1, rfl, o1⟩ := open_u8 (hval 1 5 v1 rfl rfl) h1
  clear hA0 hval0
  refine (law_has a0 A0 c0 a1 m0 o1 W o0 ht).mono fun e W' ⟨he, hb⟩ => ?_
  subst he
  refine ⟨_, rfl, _, _, _, [], p0 ++ (p1), [], hW', trodAll_mk1 (shut_bool Tryd.underlying4 _), ?_, rfl, hb.frame _, fun h => by cases h⟩
  have r0 := Below.trod Tryd.laidOut (by kernel_rfl) (of_decide_eq_true (by kernel_rfl)) k0 hb (fun x hx => hlt x (by simp [hx]))
  have r1 := Below.trod Tryd.laidOut (by kernel_rfl) (of_decide_eq_true (by kernel_rfl)) k1 hb (fun x hx => hlt x (by simp [hx]))
  exact trodAll_mk2 r0 r1

theorem bloomHas_met (os : Os) : laidMet Tryd.prog Rows.bloomHasRow.laid ((laidWorld os).forCall (fun _ _ => 0) ⟨#[], #[.slice none 0 0, .int .u8 0], []⟩).memory :=
  laidMet_of_run' 8 (by kernel_rfl) (by kernel_rfl)
theorem bloomHas_reads (os : Os) {H : Type} (enc : TypeId × Value → H) : ∃ places, DataW.whole enc Tryd.prog ((laidWorld os).forCall (fun _ _ => 0) ⟨#[], #[.slice none 0 0, .int .u8 0], []⟩).memory Tryd.f5.params.toList Rows.bloomHasSpec.vars false (#[.slice none 0 0, .int .u8 0] : Array Value).toList 8 = some ([.nil, .lit (.int .u8 0)], [], places) :=
  ⟨[], by kernel_rfl⟩

set_option maxRecDepth 100000 in
theorem bloomHas_lifted (os : Os) (started : os.Started) (H : Type) (enc : TypeId × Value → H) (F : Stop.Interp) :
    ReturnsInHanded {} Tryd.checked os 5 .any ((OpenSpec.ofChange Rows.bloomHasSpec).preRow enc Tryd.prog Tryd.f5 Rows.bloomHasRow.domain false Rows.bloomHasRow.laid) (((OpenSpec.ofChange Rows.bloomHasSpec).at F).post enc Tryd.prog Tryd.f5 false true false false) := by
  obtain ⟨places, hx⟩ := bloomHas_reads os enc
  refine returnsInHanded_of_row (C := Tryd.checked) (s := OpenSpec.ofChange Rows.bloomHasSpec) Tryd.own started (by kernel_rfl) Tryd.func5
    (witness_row_at (enc := enc) (C := Tryd.checked) false (laidWorld os) #[.slice none 0 0, .int .u8 0] rfl (by kernel_rfl) (by kernel_rfl) (by kernel_rfl)
      (OpenSpec.preRow_of_cond 8 hx (by kernel_rfl) (fun k hk => by cases hk) (by kernel_rfl) (bloomHas_met os))) ?_
  intro W base args ds gs before hval hW _ _ _ hL _ _
  exact bloomHas_contract H enc W base args ds gs before hval hW hL

theorem bloomHas_said : Rows.BloomHasSaid :=
  OpenClaim.holds_of_cond 5 Tryd.f5 rfl rfl rfl rfl rfl rfl rfl ⟨rfl, rfl, rfl, rfl, rfl⟩ rfl rfl rfl rfl rfl (by kernel_rfl) Tryd.func5 (by kernel_rfl)
    (of_decide_eq_true (by kernel_rfl)) (by unfold Func.isWrapper; first | (rw [if_pos (by decide +kernel)]; kernel_rfl) | (rw [if_neg (by decide +kernel)]; exact ⟨rfl, rfl⟩))
    (fun os started H enc _ F => by rw [OpenClaim.pre_eq_preRow]; exact bloomHas_lifted os started H enc F)

theorem bloomHas_plain (f : FuncId) (fn : Func) (hf : Tryd.pinned.checked.prog.funcNamed Rows.bloomHasRow.func = some f) (hfn : Tryd.pinned.checked.prog.funcs[f]? = some fn) :
    false = Tryd.pinned.checked.prog.looks [] ∧ ∀ (j : Nat) t, fn.params[j]? = some t → Tryd.pinned.checked.prog.wantsStandIn t = false := by
  obtain rfl : f = 5 := Option.some.inj ((show Tryd.prog.funcNamed Rows.bloomHasRow.func = some 5 by kernel_rfl).symm.trans hf) |>.symm
  obtain rfl : fn = Tryd.f5 := (Option.some.inj (Tryd.func5.symm.trans hfn)).symm
  refine ⟨by kernel_rfl, fun j t ht => ?_⟩
  rw [Tryd.params5] at ht
  have hm := Array.mem_of_getElem? ht
  simp only [List.mem_toArray, List.mem_cons, List.not_mem_nil, or_false] at hm
  rcases hm with rfl | rfl
  all_goals first
    | exact (show Tryd.prog.wantsStandIn 22 = false by kernel_rfl)
    | exact (show Tryd.prog.wantsStandIn 5 = false by kernel_rfl)

theorem bloomHas_card : Rows.BloomHasCardSaid :=
  Claim7.holds_tied_plain_at .later [] _ _ _ _ bloomHas_said (fun _ h => by cases h) (by kernel_rfl) (fun _ h => by cases h) bloomHas_row_tie rfl ⟨rfl, rfl⟩ (by kernel_rfl) rfl bloomHas_plain (by kernel_rfl)
#print axioms bloomHas_card
end Go.Proofs.YtphonnihibikcaaDoor
