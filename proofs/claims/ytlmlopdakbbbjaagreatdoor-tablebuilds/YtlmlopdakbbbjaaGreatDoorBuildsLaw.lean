/-
  TableBuilds: whatever list of cells, number and text come in, the law answers true, and leaves all as it was. Conditions: the row's own.
-/
import Derived.Test.YtlmlopdakbbbjaaGreatDoorTLft
import Derived.Test.YtlmlopdakbbbjaaGreatDoorRG
namespace Go.Proofs.YtlmlopdakbbbjaaGreatDoor
open Go.ChangeShapes Go.WideShapes Go.ChangeAt Go.RowKit Go.Joins Go.Deep

set_option maxRecDepth 100000 in
set_option maxHeartbeats 8000000 in
theorem law_builds (v : Value) (l : List Cel) (q : Nat) (m : List UInt8) (w : World) (h : CelC w v l) (hok : ∀ c ∈ l, c.ok) (hml : l.length ≤ maxLen) (hq : q < 18446744073709551616) (hmm : m.length ≤ maxLen) (ht : Tab w) :
    Calls Tryz.prog 3 #[v, .int .u64 q, .string (B m)] w fun e w' => e = .returned (.bool true) ∧ Old w w' := by
  have hm63 : m.length ≤ 9223372036854775807 := by unfold maxLen at hmm; omega
  clear hmm
  go_enter Tryz.func3, Tryz.ntmps3
  go_wp2_with fail
  refine (bounded_at v l _ h.cels hml).mono ?_
  rintro e w1 ⟨rfl, rfl⟩
  cases hbd : bdT l with
  | false =>
    go_wp2_with (go_at_call 6; refine (shown_any _ ht).mono ?_; rintro e w1 ⟨rfl, k1⟩)
    go_ret
    exact ⟨rfl, k1⟩
  | true =>
    have hl := bdT_len hbd
    clear hbd hml
    by_cases hm : m.length ≤ 100
    case neg =>
      have dm : decide ((100 : Int) < (m.length : Int)) = true := by simp; omega
      go_wp2_with (go_at_call 6; refine (shown_any _ ht).mono ?_; rintro e w1 ⟨rfl, k1⟩)
      go_ret
      exact ⟨rfl, k1⟩
    have dm : decide ((100 : Int) < (m.length : Int)) = false := by simp; omega
    clear hm63
    go_wp2_with fail
    refine (shown_any _ ht).mono ?_
    rintro e w1 ⟨rfl, k1⟩
    go_wp2_with fail
    refine (tbuild_any v l q _ (h.old k1) hok (by omega) hq (ht.old k1)).mono ?_
    rintro e w2 ⟨rfl, k2⟩
    have o2 := k1.tr k2
    clear k1 k2
    rw [show buildTV l q = .tuple #[.string (B (buildT l q)), .int .i64 (errT l)] from rfl]
    go_wp2_with fail
    refine (rbuild5_any v l q _ (h.old o2) hok (by omega) hq).mono ?_
    rintro e w3 ⟨rfl, k3⟩
    rw [show buildTV l q = .tuple #[.string (B (buildT l q)), .int .i64 (errT l)] from rfl]
    have o3 := o2.tr k3
    clear o2 k3
    by_cases he : errT l = 0
    case neg =>
      have hne : (errT l != 0) = true := by simpa using he
      rw [show buildT l q = [] by unfold buildT; rw [if_neg he]]
      go_wp2
      go_ret
      exact ⟨rfl, o3⟩
    rw [show buildT l q = tbl l q by unfold buildT; rw [if_pos he], he]
    have hla := (tbl_len q he)
    have hO := openO_tbl l q hq he hok
    obtain ⟨-, hnl, hpe, hris⟩ := errT_zero.1 he
    have hrow : ∀ c ∈ l, c.row.length ≤ 100000 := by
      intro c hc
      have hc2 : c ∈ (parts l).flatten := by rw [parts_flat]; exact hc
      obtain ⟨p, hp, hcp⟩ := List.mem_flatten.1 hc2
      have := (mayB_parts ((errB_zero.1 (hpe p hp)).2.1 c hcp)).2.1
      omega
    clear he hpe
    generalize tbl l q = s at *
    have hs2 : s.length ≤ 300000 := by omega
    clear hla dm
    have hlp := List.length_pos_iff.2 hnl
    go_wp2_with fail
    refine (open_any s (by omega) _ (ht.old o3)).mono ?_
    rintro e w4 ⟨k4, ⟨hN, -⟩ | ⟨l', q', g, hO2, hg, rfl, hT⟩⟩
    · rw [hO] at hN; cases hN
    rw [hO] at hO2
    injection hO2 with hO2
    injection hO2 with e1 e2
    subst e1 e2
    have o4 := o3.tr k4
    clear o3 k4 hO hg
    go_wp2_with fail
    refine (same5_any g v l q m _ hT (h.old o4) hnl (by omega) hris (by omega) hrow (ht.old o4)).mono ?_
    rintro e w5 ⟨rfl, k5⟩
    have o5 := o4.tr k5
    have hT5 := hT.old k5
    clear o4 k5 hT
    have h5 := h.old o5
    have hmid : l.length / 2 < l.length := by omega
    have hlk := (row_sel l _ hris (rows_all l _ (List.getElem_mem hmid))).2
    have hrm := hrow _ (List.getElem_mem hmid)
    have hCC := h5
    obtain ⟨A, cap, rfl, -, hC⟩ := h5
    obtain ⟨b, off, rfl, hA⟩ := hC hnl
    obtain ⟨a0, -⟩ := (hA.at_ (l.length / 2) hmid).held
    generalize l[l.length / 2].row = r at *
    have i1 : (l.length : Int) / 2 < (l.length : Int) := by omega
    have i2 : (0 : Int) ≤ (l.length : Int) / 2 := by omega
    have i4 : ((l.length : Int) / 2).toNat = l.length / 2 := by omega
    clear hC
    go_wp2_with fail
    refine (same5_any g _ l q r _ hT5 hCC hnl (by omega) hris (by omega) hrow (ht.old o5)).mono ?_
    rintro e w6 ⟨rfl, k6⟩
    have o6 := o5.tr k6
    have hT6 := hT5.old k6
    have a6 := cell_old a0 k6
    clear o5 k6 hT5 a0
    go_wp2_with fail
    refine (looks_any g l q r _ hT6 (by omega) (by omega) (ht.old o6)).mono ?_
    rintro e w7 ⟨rfl, k7⟩
    have o7 := o6.tr k7
    have dz : decide ((0 : Int) < ((lookP l r).length : Int)) = true := decide_eq_true (by omega)
    go_wp2
    go_ret
    exact ⟨rfl, o7⟩

set_option maxRecDepth 100000 in
theorem tableBuilds_contract (H : Type) (enc : TypeId × Value → H) (W : World) (base : Nat) (args : Array Value) (ds gs : List (DataW H)) (before : List MemPlace)
    (hval0 : ∀ (j : Nat) t v, Tryz.f3.params[j]? = some t → args[j]? = some v → Value.okWide Tryz.prog W .any base t v)
    (hW : DataW.Whole enc Tryz.prog Tryz.f3.params.toList Rows.tableBuildsSpec.vars false W args.toList ds gs before) (hL : laidMetH Tryz.prog Rows.tableBuildsRow.laid W) :
    Calls Tryz.prog 3 args W fun e W' => ∃ v, e = .returned v ∧ Rows.tableBuildsSpec.post enc Tryz.prog Tryz.f3 false true false false W args v W' := by
  have ht : Tab W := table hL
  have hval : ∀ (j : Nat) t v, Tryz.f3.params[j]? = some t → args[j]? = some v → Value.okWide Tryz.prog W .any base t v := hval0
  have hW' := hW
  obtain ⟨p, q, hA0, hV, rfl, hfz, hnd⟩ := hW
  have hA : DataW.TrodAll enc Tryz.prog W 0 (fun _ => true) true Tryz.f3.params.toList args.toList ds p := hA0
  rw [Tryz.params3] at hA hval
  obtain ⟨v0, v1, v2, d0, d1, d2, p0, p1, p2, rfl, rfl, rfl, h0, h1, h2⟩ := trodAll_three hA
  obtain ⟨rfl, rfl⟩ := trodVars_none hV
  have hlt : ∀ x ∈ p0 ++ (p1 ++ (p2)), x.block < W.heap.size := fun x hx => hW'.lt x (by simpa using hx)
  have k0 := h0
  have k1 := h1
  have k2 := h2
  obtain ⟨a0, o0, q0, m0, x0⟩ := open_cels (hval 0 22 v0 rfl rfl) h0 (fun x hx => hlt x (by simp [hx]))
  obtain ⟨a1, rfl, o1⟩ := open_u64 (hval 1 23 v1 rfl rfl) h1
  obtain ⟨a2, rfl, o2⟩ := open_str (hval 2 9 v2 rfl rfl) h2
  clear hA0 hval0
  refine (law_builds v0 a0 a1 a2 W (o0.room x0) q0 m0 o1 o2 ht).mono fun e W' ⟨he, hb⟩ => ?_
  subst he
  refine ⟨_, rfl, _, _, _, [], p0 ++ (p1 ++ (p2)), [], hW', trodAll_mk1 (shut_bool Tryz.underlying4 _), ?_, rfl, hb.frame _, fun h => by cases h⟩
  have r0 := Below.trod Tryz.laidOut (by kernel_rfl) (of_decide_eq_true (by kernel_rfl)) k0 hb (fun x hx => hlt x (by simp [hx]))
  have r1 := Below.trod Tryz.laidOut (by kernel_rfl) (of_decide_eq_true (by kernel_rfl)) k1 hb (fun x hx => hlt x (by simp [hx]))
  have r2 := Below.trod Tryz.laidOut (by kernel_rfl) (of_decide_eq_true (by kernel_rfl)) k2 hb (fun x hx => hlt x (by simp [hx]))
  exact trodAll_mk3 r0 r1 r2

set_option maxRecDepth 100000 in
theorem tableBuilds_met (os : Os) : laidMet Tryz.prog Rows.tableBuildsRow.laid ((laidWorld os).forCall (fun _ _ => 0) ⟨#[], #[.slice none 0 0, .int .u64 0, .string ByteArray.empty], []⟩).memory :=
  laidMet_of_run' 8 (by kernel_rfl) (by kernel_rfl)
set_option maxRecDepth 100000 in
theorem tableBuilds_reads (os : Os) {H : Type} (enc : TypeId × Value → H) : ∃ places, DataW.whole enc Tryz.prog ((laidWorld os).forCall (fun _ _ => 0) ⟨#[], #[.slice none 0 0, .int .u64 0, .string ByteArray.empty], []⟩).memory Tryz.f3.params.toList Rows.tableBuildsSpec.vars false (#[.slice none 0 0, .int .u64 0, .string ByteArray.empty] : Array Value).toList 8 = some ([.nil, .lit (.int .u64 0), .lit (.string [])], [], places) :=
  ⟨[], by kernel_rfl⟩

set_option maxRecDepth 100000 in
theorem tableBuilds_lifted (os : Os) (started : os.Started) (H : Type) (enc : TypeId × Value → H) (F : Stop.Interp) :
    ReturnsInHanded {} Tryz.checked os 3 .any ((OpenSpec.ofChange Rows.tableBuildsSpec).preRow enc Tryz.prog Tryz.f3 Rows.tableBuildsRow.domain false Rows.tableBuildsRow.laid) (((OpenSpec.ofChange Rows.tableBuildsSpec).at F).post enc Tryz.prog Tryz.f3 false true false false) := by
  obtain ⟨places, hx⟩ := tableBuilds_reads os enc
  refine returnsInHanded_of_row (C := Tryz.checked) (s := OpenSpec.ofChange Rows.tableBuildsSpec) Tryz.own started (by kernel_rfl) Tryz.func3
    (witness_row_at (enc := enc) (C := Tryz.checked) false (laidWorld os) #[.slice none 0 0, .int .u64 0, .string ByteArray.empty] rfl (by kernel_rfl) (by kernel_rfl) (by kernel_rfl)
      (OpenSpec.preRow_of_cond 8 hx (by kernel_rfl) (fun k hk => by cases hk) (by kernel_rfl) (tableBuilds_met os))) ?_
  intro W base args ds gs before hval hW _ _ _ hL _ _
  exact tableBuilds_contract H enc W base args ds gs before hval hW hL

set_option maxRecDepth 100000 in
theorem tableBuilds_said : Rows.TableBuildsSaid :=
  OpenClaim.holds_of_cond 3 Tryz.f3 rfl rfl rfl rfl rfl rfl rfl ⟨rfl, rfl, rfl, rfl, rfl⟩ rfl rfl rfl rfl rfl (by kernel_rfl) Tryz.func3 (by kernel_rfl)
    (of_decide_eq_true (by kernel_rfl)) (by unfold Func.isWrapper; first | (rw [if_pos (by decide +kernel)]; kernel_rfl) | (rw [if_neg (by decide +kernel)]; exact ⟨rfl, rfl⟩))
    (fun os started H enc _ F => by rw [OpenClaim.pre_eq_preRow]; exact tableBuilds_lifted os started H enc F)

set_option maxRecDepth 100000 in
theorem tableBuilds_plain (f : FuncId) (fn : Func) (hf : Tryz.pinned.checked.prog.funcNamed Rows.tableBuildsRow.func = some f) (hfn : Tryz.pinned.checked.prog.funcs[f]? = some fn) :
    false = Tryz.pinned.checked.prog.looks [] ∧ ∀ (j : Nat) t, fn.params[j]? = some t → Tryz.pinned.checked.prog.wantsStandIn t = false := by
  obtain rfl : f = 3 := Option.some.inj ((show Tryz.prog.funcNamed Rows.tableBuildsRow.func = some 3 by kernel_rfl).symm.trans hf) |>.symm
  obtain rfl : fn = Tryz.f3 := (Option.some.inj (Tryz.func3.symm.trans hfn)).symm
  refine ⟨by kernel_rfl, fun j t ht => ?_⟩
  rw [Tryz.params3] at ht
  have hm := Array.mem_of_getElem? ht
  simp only [List.mem_toArray, List.mem_cons, List.not_mem_nil, or_false] at hm
  rcases hm with rfl | rfl | rfl
  all_goals first
    | exact (show Tryz.prog.wantsStandIn 22 = false by kernel_rfl)
    | exact (show Tryz.prog.wantsStandIn 23 = false by kernel_rfl)
    | exact (show Tryz.prog.wantsStandIn 9 = false by kernel_rfl)

set_option maxRecDepth 100000 in
theorem tableBuilds_card : Rows.TableBuildsCardSaid :=
  Claim7.holds_tied_plain_at .later [] _ _ _ _ tableBuilds_said (fun _ h => by cases h) (by kernel_rfl) (fun _ h => by cases h) tableBuilds_row_tie rfl ⟨rfl, rfl⟩ (by kernel_rfl) rfl tableBuilds_plain (by kernel_rfl)
#print axioms tableBuilds_card
end Go.Proofs.YtlmlopdakbbbjaaGreatDoor
