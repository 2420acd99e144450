/-
  BloomArgs: whatever number comes in, the law answers true, and leaves all as it was. Condition: the table is laid as the program's text lays it.
-/
import Derived.Test.YtphonnihibikcaaDoorLift
namespace Go.Proofs.YtphonnihibikcaaDoor
open Go.ChangeShapes Go.WideShapes Go.ChangeAt Go.RowKit Go.Joins Go.Deep

set_option maxHeartbeats 2000000 in
theorem law_args (b : Int) (w : World) (h : Tab w) :
    Calls Tryd.prog 7 #[.int .i64 b] w fun e w' => e = .returned (.bool true) ∧ Old w w' := by
  by_cases hb : b < 1 ∨ 64 < b
  · go_enter Tryd.func7, Tryd.ntmps7
    go_wp2_with fail
    refine (make_arg _ b hb _).mono ?_
    rintro e w1 ⟨rfl, rfl⟩
    rcases hb with hb | hb
    · go_wp2_with fail
      refine (shown_any _ (h.al _)).mono ?_
      rintro e w1 ⟨rfl, h1⟩
      go_wp2
      go_ret
      exact ⟨rfl, (old_alloc _ _).tr h1⟩
    · go_wp2_with fail
      refine (shown_any _ (h.al _)).mono ?_
      rintro e w1 ⟨rfl, h1⟩
      go_wp2
      go_ret
      exact ⟨rfl, (old_alloc _ _).tr h1⟩
  · obtain ⟨n, rfl⟩ := Int.eq_ofNat_of_zero_le (show 0 ≤ b by omega)
    have hs : sizeL 1 n = 8 := by unfold sizeL; omega
    have hl : (makeL [[120]] n).length = 8 := (makeL_length _ _).trans hs
    have HK := Lib.hid (make_any [[120]] (some ⟨w.heap.size, 0, none⟩) 1 n (by omega) (by omega) (by simp) (by simp) (w.alloc (.cells #[.string (B [120])] 9)) (new_strs w [120] (by simp)) (h.al _))
    generalize makeL [[120]] n = f at *
    go_enter Tryd.func7, Tryd.ntmps7
    go_wp2_with fail
    refine HK.out.mono ?_
    rintro e w1 ⟨rfl, h1⟩
    have h2 := (old_alloc w _).tr h1
    clear h1 HK
    go_wp2_with fail
    refine (may_any [] [120] (by simp) (by simp) _ (h.old h2)).mono ?_
    rintro e w3 ⟨rfl, h3⟩
    have h4 := h2.tr h3
    clear h2 h3
    rw [show mayL [] [120] = true from rfl]
    go_wp2_with fail
    refine (shown_any _ (h.old h4)).mono ?_
    rintro e w5 ⟨rfl, h5⟩
    go_wp2
    go_ret
    exact ⟨rfl, h4.tr h5⟩

theorem bloomArgs_contract (H : Type) (enc : TypeId × Value → H) (W : World) (base : Nat) (args : Array Value) (ds gs : List (DataW H)) (before : List MemPlace)
    (hval0 : ∀ (j : Nat) t v, Tryd.f7.params[j]? = some t → args[j]? = some v → Value.okWide Tryd.prog W .any base t v)
    (hW : DataW.Whole enc Tryd.prog Tryd.f7.params.toList Rows.bloomArgsSpec.vars false W args.toList ds gs before) (hL : laidMetH Tryd.prog Rows.bloomArgsRow.laid W) :
    Calls Tryd.prog 7 args W fun e W' => ∃ v, e = .returned v ∧ Rows.bloomArgsSpec.post enc Tryd.prog Tryd.f7 false true false false W args v W' := by
  have ht : Tab W := table hL
  have hval : ∀ (j : Nat) t v, Tryd.f7.params[j]? = some t → args[j]? = some v → Value.okWide Tryd.prog W .any base t v := hval0
  have hW' := hW
  obtain ⟨p, q, hA0, hV, rfl, hfz, hnd⟩ := hW
  have hA : DataW.TrodAll enc Tryd.prog W 0 (fun _ => true) true Tryd.f7.params.toList args.toList ds p := hA0
  rw [Tryd.params7] at hA hval
  obtain ⟨v0, d0, rfl, rfl, h0⟩ := trodAll_one hA
  obtain ⟨rfl, rfl⟩ := trodVars_none hV
  have hlt : ∀ x ∈ p, x.block < W.heap.size := fun x hx => hW'.lt x (by simpa using hx)
  have k0 := h0
  obtain ⟨a0, rfl, o0⟩ := open_i64 (hval 0 3 v0 rfl rfl) h0
  clear hA0 hval0
  refine (law_args a0 W ht).mono fun e W' ⟨he, hb⟩ => ?_
  subst he
  refine ⟨_, rfl, _, _, _, [], p, [], hW', trodAll_mk1 (shut_bool Tryd.underlying4 _), ?_, rfl, hb.frame _, fun h => by cases h⟩
  have r0 := Below.trod Tryd.laidOut (by kernel_rfl) (of_decide_eq_true (by kernel_rfl)) k0 hb (fun x hx => hlt x (by simp [hx]))
  exact trodAll_mk1 r0

theorem bloomArgs_met (os : Os) : laidMet Tryd.prog Rows.bloomArgsRow.laid ((laidWorld os).forCall (fun _ _ => 0) ⟨#[], #[.int .i64 0], []⟩).memory :=
  laidMet_of_run' 8 (by kernel_rfl) (by kernel_rfl)
theorem bloomArgs_reads (os : Os) {H : Type} (enc : TypeId × Value → H) : ∃ places, DataW.whole enc Tryd.prog ((laidWorld os).forCall (fun _ _ => 0) ⟨#[], #[.int .i64 0], []⟩).memory Tryd.f7.params.toList Rows.bloomArgsSpec.vars false (#[.int .i64 0] : Array Value).toList 8 = some ([.lit (.int .i64 0)], [], places) :=
  ⟨[], by kernel_rfl⟩

set_option maxRecDepth 100000 in
theorem bloomArgs_lifted (os : Os) (started : os.Started) (H : Type) (enc : TypeId × Value → H) (F : Stop.Interp) :
    ReturnsInHanded {} Tryd.checked os 7 .any ((OpenSpec.ofChange Rows.bloomArgsSpec).preRow enc Tryd.prog Tryd.f7 Rows.bloomArgsRow.domain false Rows.bloomArgsRow.laid) (((OpenSpec.ofChange Rows.bloomArgsSpec).at F).post enc Tryd.prog Tryd.f7 false true false false) := by
  obtain ⟨places, hx⟩ := bloomArgs_reads os enc
  refine returnsInHanded_of_row (C := Tryd.checked) (s := OpenSpec.ofChange Rows.bloomArgsSpec) Tryd.own started (by kernel_rfl) Tryd.func7
    (witness_row_at (enc := enc) (C := Tryd.checked) false (laidWorld os) #[.int .i64 0] rfl (by kernel_rfl) (by kernel_rfl) (by kernel_rfl)
      (OpenSpec.preRow_of_cond 8 hx (by kernel_rfl) (fun k hk => by cases hk) (by kernel_rfl) (bloomArgs_met os))) ?_
  intro W base args ds gs before hval hW _ _ _ hL _ _
  exact bloomArgs_contract H enc W base args ds gs before hval hW hL

theorem bloomArgs_said : Rows.BloomArgsSaid :=
  OpenClaim.holds_of_cond 7 Tryd.f7 rfl rfl rfl rfl rfl rfl rfl ⟨rfl, rfl, rfl, rfl, rfl⟩ rfl rfl rfl rfl rfl (by kernel_rfl) Tryd.func7 (by kernel_rfl)
    (of_decide_eq_true (by kernel_rfl)) (by unfold Func.isWrapper; first | (rw [if_pos (by decide +kernel)]; kernel_rfl) | (rw [if_neg (by decide +kernel)]; exact ⟨rfl, rfl⟩))
    (fun os started H enc _ F => by rw [OpenClaim.pre_eq_preRow]; exact bloomArgs_lifted os started H enc F)

theorem bloomArgs_plain (f : FuncId) (fn : Func) (hf : Tryd.pinned.checked.prog.funcNamed Rows.bloomArgsRow.func = some f) (hfn : Tryd.pinned.checked.prog.funcs[f]? = some fn) :
    false = Tryd.pinned.checked.prog.looks [] ∧ ∀ (j : Nat) t, fn.params[j]? = some t → Tryd.pinned.checked.prog.wantsStandIn t = false := by
  obtain rfl : f = 7 := Option.some.inj ((show Tryd.prog.funcNamed Rows.bloomArgsRow.func = some 7 by kernel_rfl).symm.trans hf) |>.symm
  obtain rfl : fn = Tryd.f7 := (Option.some.inj (Tryd.func7.symm.trans hfn)).symm
  refine ⟨by kernel_rfl, fun j t ht => ?_⟩
  rw [Tryd.params7] at ht
  have hm := Array.mem_of_getElem? ht
  simp only [List.mem_toArray, List.mem_cons, List.not_mem_nil, or_false] at hm
  subst hm
  exact (show Tryd.prog.wantsStandIn 3 = false by kernel_rfl)

theorem bloomArgs_card : Rows.BloomArgsCardSaid :=
  Claim7.holds_tied_plain_at .later [] _ _ _ _ bloomArgs_said (fun _ h => by cases h) (by kernel_rfl) (fun _ h => by cases h) bloomArgs_row_tie rfl ⟨rfl, rfl⟩ (by kernel_rfl) rfl bloomArgs_plain (by kernel_rfl)
#print axioms bloomArgs_card
end Go.Proofs.YtphonnihibikcaaDoor
