/-
  CrcPuts: whatever texts come in, the law answers true, and leaves all as it was. Condition: the table is laid as the program's text lays it.
-/
import Derived.Test.YtjnhggdkllhinaaDoorRef
namespace Go.Proofs.YtjnhggdkllhinaaDoor
open Go.ChangeShapes Go.WideShapes Go.ChangeAt Go.RowKit Go.Joins Go.Deep

/-- What Put tells. -/
def putR (t : List UInt8) : List UInt8 × Nat := if t.length ≤ 65535 then (put t, 0) else ([], 71)
theorem put_any (t : List UInt8) (hl : t.length ≤ 1000000) (w : World) (ht : Tab w) :
    Calls Tryd.prog 14 #[.string (B t)] w fun e w' => e = .returned (.tuple #[.string (B (putR t).1), .int .i64 ((putR t).2 : Nat)]) ∧ Old w w' := by
  unfold putR
  split
  · exact put_yes t (by assumption) w ht
  · exact (put_no t (by omega) hl w).mono fun e w' ⟨h1, h2⟩ => ⟨h1, h2 ▸ Old.re _⟩
theorem rput_any (t : List UInt8) (hl : t.length ≤ 1000000) (w : World) :
    Calls Tryd.prog 15 #[.string (B t)] w fun e w' => e = .returned (.tuple #[.string (B (putR t).1), .int .i64 ((putR t).2 : Nat)]) ∧ Old w w' := by
  unfold putR
  split
  · exact rput_yes t (by assumption) w
  · exact (rput_no t (by omega) hl w).mono fun e w' ⟨h1, h2⟩ => ⟨h1, h2 ▸ Old.re _⟩

set_option maxRecDepth 10000 in
set_option maxHeartbeats 4000000 in
theorem law_puts (t s : List UInt8) (hlt : t.length ≤ maxLen) (hls : s.length ≤ maxLen) (w : World) (ht : Tab w) :
    Calls Tryd.prog 4 #[.string (B t), .string (B s)] w fun e w' => e = .returned (.bool true) ∧ Old w w' := by
  have hlt2 : t.length ≤ 2 ^ 63 - 1 := hlt
  have hls2 : s.length ≤ 2 ^ 63 - 1 := hls
  by_cases hb : s.length ≤ 1500 ∧ t.length ≤ 66000
  · obtain ⟨hs, hl⟩ := hb
    have P1 := Lib.hid (fun w => put_any t (by omega) w)
    have P2 := Lib.hid (fun w => rput_any t (by omega) w)
    have G1 := Lib.hid (fun w => get_any s (by omega) w)
    have G2 := Lib.hid (fun w => rget_any s (by omega) w)
    have A1 := Lib.hid (fun w => all_any s (by omega) w)
    have A2 := Lib.hid (fun w => rall_any s (by omega) w)
    have HG := Lib.hid (show ∃ x n e, getR s = .tuple #[.string (B x), .int .i64 ((n : Nat) : Int), .int .i64 ((e : Nat) : Int)] from ⟨_, _, _, rfl⟩)
    have hal := allV_len s
    generalize putR t = pr at *
    generalize allV s = al at *
    generalize took al = tk at *
    generalize getR s = gr at *
    obtain ⟨x, n, eg, rfl⟩ := HG.out
    clear HG
    go_enter Tryd.func4, Tryd.ntmps4
    go_wp2_with fail
    refine (shown_any _ ht).mono ?_
    rintro e w1 ⟨rfl, h1⟩
    go_wp2_with fail
    refine (P1.out _ (ht.old h1)).mono ?_
    rintro e w2 ⟨rfl, h2⟩
    have h2 := h1.tr h2
    clear h1
    go_wp2_with fail
    refine (P2.out _).mono ?_
    rintro e w3 ⟨rfl, h3⟩
    have h3 := h2.tr h3
    clear h2
    go_wp2_with fail
    refine (G1.out _ (ht.old h3)).mono ?_
    rintro e w4 ⟨rfl, h4⟩
    have h4 := h3.tr h4.old
    clear h3
    go_wp2_with fail
    refine (G2.out _).mono ?_
    rintro e w5 ⟨rfl, h5⟩
    have h5 := h4.tr h5
    clear h4
    go_wp2_with fail
    refine (A1.out _ (ht.old h5)).mono ?_
    rintro e w6 ⟨Aa, ca, rfl, sa, h6⟩
    have h6 := h5.tr h6
    clear h5
    go_wp2_with fail
    refine (A2.out _).mono ?_
    rintro e w7 ⟨Ab, cb, rfl, sb, h7⟩
    have sa := sa.old h7
    have h7 := h6.tr h7
    clear h6 P1 P2 G1 G2 A1 A2
    have S1 := Lib.hid (fun w => same_any al al Aa Ab ca cb (by omega) (by omega) w)
    go_wp2_with fail
    refine (S1.out _ sa sb).mono ?_
    rintro e w8 ⟨rfl, h8⟩
    go_wp2
    go_ret
    exact ⟨rfl, h7.tr h8⟩
  · by_cases h1 : s.length ≤ 1500
    · have h2 : ¬ t.length ≤ 66000 := fun h => hb ⟨h1, h⟩
      go_enter Tryd.func4, Tryd.ntmps4
      go_wp2_with fail
      refine (shown_any _ ht).mono ?_
      rintro e w1 ⟨rfl, h1⟩
      go_wp2
      go_ret
      exact ⟨rfl, h1⟩
    · go_enter Tryd.func4, Tryd.ntmps4
      go_wp2_with fail
      refine (shown_any _ ht).mono ?_
      rintro e w1 ⟨rfl, h1⟩
      go_wp2
      go_ret
      exact ⟨rfl, h1⟩

theorem crcPuts_contract (H : Type) (enc : TypeId × Value → H) (W : World) (base : Nat) (args : Array Value) (ds gs : List (DataW H)) (before : List MemPlace)
    (hval0 : ∀ (j : Nat) t v, Tryd.f4.params[j]? = some t → args[j]? = some v → Value.okWide Tryd.prog W .any base t v)
    (hW : DataW.Whole enc Tryd.prog Tryd.f4.params.toList Rows.crcPutsSpec.vars false W args.toList ds gs before) (hL : laidMetH Tryd.prog Rows.crcPutsRow.laid W) :
    Calls Tryd.prog 4 args W fun e W' => ∃ v, e = .returned v ∧ Rows.crcPutsSpec.post enc Tryd.prog Tryd.f4 false true false false W args v W' := by
  have ht : Tab W := table hL
  have hval : ∀ (j : Nat) t v, Tryd.f4.params[j]? = some t → args[j]? = some v → Value.okWide Tryd.prog W .any base t v := hval0
  have hW' := hW
  obtain ⟨p, q, hA0, hV, rfl, hfz, hnd⟩ := hW
  have hA : DataW.TrodAll enc Tryd.prog W 0 (fun _ => true) true Tryd.f4.params.toList args.toList ds p := hA0
  rw [Tryd.params4] at hA hval
  obtain ⟨v0, v1, d0, d1, p0, p1, rfl, rfl, rfl, h0, h1⟩ := trodAll_two hA
  obtain ⟨rfl, rfl⟩ := trodVars_none hV
  have hlt : ∀ x ∈ p0 ++ (p1), x.block < W.heap.size := fun x hx => hW'.lt x (by simpa using hx)
  have k0 := h0
  have k1 := h1
  obtain ⟨a0, rfl, o0⟩ := open_str (hval 0 9 v0 rfl rfl) h0
  obtain ⟨a1, rfl, o1⟩ := open_str (hval 1 9 v1 rfl rfl) h1
  clear hA0 hval0
  refine (law_puts a0 a1 o0 o1 W ht).mono fun e W' ⟨he, hb⟩ => ?_
  subst he
  refine ⟨_, rfl, _, _, _, [], p0 ++ (p1), [], hW', trodAll_mk1 (shut_bool Tryd.underlying4 _), ?_, rfl, hb.frame _, fun h => by cases h⟩
  have r0 := Below.trod Tryd.laidOut (by kernel_rfl) (of_decide_eq_true (by kernel_rfl)) k0 hb (fun x hx => hlt x (by simp [hx]))
  have r1 := Below.trod Tryd.laidOut (by kernel_rfl) (of_decide_eq_true (by kernel_rfl)) k1 hb (fun x hx => hlt x (by simp [hx]))
  exact trodAll_mk2 r0 r1

theorem crcPuts_met (os : Os) : laidMet Tryd.prog Rows.crcPutsRow.laid ((laidWorld os).forCall (fun _ _ => 0) ⟨#[], #[.string ByteArray.empty, .string ByteArray.empty], []⟩).memory :=
  laidMet_of_run' 8 (by kernel_rfl) (by kernel_rfl)
theorem crcPuts_reads (os : Os) {H : Type} (enc : TypeId × Value → H) : ∃ places, DataW.whole enc Tryd.prog ((laidWorld os).forCall (fun _ _ => 0) ⟨#[], #[.string ByteArray.empty, .string ByteArray.empty], []⟩).memory Tryd.f4.params.toList Rows.crcPutsSpec.vars false (#[.string ByteArray.empty, .string ByteArray.empty] : Array Value).toList 8 = some ([.lit (.string []), .lit (.string [])], [], places) :=
  ⟨[], by kernel_rfl⟩

set_option maxRecDepth 100000 in
theorem crcPuts_lifted (os : Os) (started : os.Started) (H : Type) (enc : TypeId × Value → H) (F : Stop.Interp) :
    ReturnsInHanded {} Tryd.checked os 4 .any ((OpenSpec.ofChange Rows.crcPutsSpec).preRow enc Tryd.prog Tryd.f4 Rows.crcPutsRow.domain false Rows.crcPutsRow.laid) (((OpenSpec.ofChange Rows.crcPutsSpec).at F).post enc Tryd.prog Tryd.f4 false true false false) := by
  obtain ⟨places, hx⟩ := crcPuts_reads os enc
  refine returnsInHanded_of_row (C := Tryd.checked) (s := OpenSpec.ofChange Rows.crcPutsSpec) Tryd.own started (by kernel_rfl) Tryd.func4
    (witness_row_at (enc := enc) (C := Tryd.checked) false (laidWorld os) #[.string ByteArray.empty, .string ByteArray.empty] rfl (by kernel_rfl) (by kernel_rfl) (by kernel_rfl)
      (OpenSpec.preRow_of_cond 8 hx (by kernel_rfl) (fun k hk => by cases hk) (by kernel_rfl) (crcPuts_met os))) ?_
  intro W base args ds gs before hval hW _ _ _ hL _ _
  exact crcPuts_contract H enc W base args ds gs before hval hW hL

theorem crcPuts_said : Rows.CrcPutsSaid :=
  OpenClaim.holds_of_cond 4 Tryd.f4 rfl rfl rfl rfl rfl rfl rfl ⟨rfl, rfl, rfl, rfl, rfl⟩ rfl rfl rfl rfl rfl (by kernel_rfl) Tryd.func4 (by kernel_rfl)
    (of_decide_eq_true (by kernel_rfl)) (by unfold Func.isWrapper; first | (rw [if_pos (by decide +kernel)]; kernel_rfl) | (rw [if_neg (by decide +kernel)]; exact ⟨rfl, rfl⟩))
    (fun os started H enc _ F => by rw [OpenClaim.pre_eq_preRow]; exact crcPuts_lifted os started H enc F)

theorem crcPuts_plain (f : FuncId) (fn : Func) (hf : Tryd.pinned.checked.prog.funcNamed Rows.crcPutsRow.func = some f) (hfn : Tryd.pinned.checked.prog.funcs[f]? = some fn) :
    false = Tryd.pinned.checked.prog.looks [] ∧ ∀ (j : Nat) t, fn.params[j]? = some t → Tryd.pinned.checked.prog.wantsStandIn t = false := by
  obtain rfl : f = 4 := Option.some.inj ((show Tryd.prog.funcNamed Rows.crcPutsRow.func = some 4 by kernel_rfl).symm.trans hf) |>.symm
  obtain rfl : fn = Tryd.f4 := (Option.some.inj (Tryd.func4.symm.trans hfn)).symm
  refine ⟨by kernel_rfl, fun j t ht => ?_⟩
  rw [Tryd.params4] at ht
  have hm := Array.mem_of_getElem? ht
  simp only [List.mem_toArray, List.mem_cons, List.not_mem_nil, or_false] at hm
  rcases hm with rfl | rfl
  all_goals first
    | exact (show Tryd.prog.wantsStandIn 9 = false by kernel_rfl)

theorem crcPuts_card : Rows.CrcPutsCardSaid :=
  Claim7.holds_tied_plain_at .later [] _ _ _ _ crcPuts_said (fun _ h => by cases h) (by kernel_rfl) (fun _ h => by cases h) crcPuts_row_tie rfl ⟨rfl, rfl⟩ (by kernel_rfl) rfl crcPuts_plain (by kernel_rfl)
#print axioms crcPuts_card
end Go.Proofs.YtjnhggdkllhinaaDoor
