/-
  TableStamps: whatever list of cells, and whatever two numbers, come in, the law answers true, and leaves all as it was. Conditions: the row's own.
-/
import Derived.Test.YtlmlopdakbbbjaaDoorTLft
namespace Go.Proofs.YtlmlopdakbbbjaaDoor
open Go.ChangeShapes Go.WideShapes Go.ChangeAt Go.RowKit Go.Joins Go.Deep

theorem tbl_same_len (l : List Cel) (a b : Nat) : (tbl l a).length = (tbl l b).length := by
  simp only [tbl, List.length_append, ftx_len]
theorem open_nil : openO [] = none ∧ openE [] = 20 := by
  constructor
  · unfold openO; rw [if_pos (.inl (by decide))]
  · unfold openE; rw [if_pos (.inl (by decide))]

set_option maxRecDepth 100000 in
set_option maxHeartbeats 8000000 in
theorem law_stamps (v : Value) (l : List Cel) (a b : Nat) (w : World) (h : CelC w v l) (hok : ∀ c ∈ l, c.ok) (hml : l.length ≤ maxLen) (ha : a < 18446744073709551616) (hb : b < 18446744073709551616) (ht : Tab w) :
    Calls Tryd.prog 3 #[v, .int .u64 a, .int .u64 b] w fun e w' => e = .returned (.bool true) ∧ Old w w' := by
  go_enter Tryd.func3, Tryd.ntmps3
  go_wp2_with fail
  refine (bounded_at v l _ h.cels hml).mono ?_
  rintro e w1 ⟨rfl, rfl⟩
  cases hbd : bdT l with
  | false =>
    go_wp2_with (go_at_call 9; refine (shown_any _ ht).mono ?_; rintro e w1 ⟨rfl, k1⟩)
    go_ret
    exact ⟨rfl, k1⟩
  | true =>
    have hl := bdT_len hbd
    clear hbd hml
    go_wp2_with fail
    refine (shown_any _ ht).mono ?_
    rintro e w1 ⟨rfl, k1⟩
    go_wp2_with fail
    refine (tbuild_any v l a _ (h.old k1) hok (by omega) ha (ht.old k1)).mono ?_
    rintro e w2 ⟨rfl, k2⟩
    have o2 := k1.tr k2
    clear k1 k2
    by_cases he : errT l = 0
    case neg =>
      rw [buildTV_no a rfl he]
      have hne : (errT l != 0) = true := by simpa using he
      go_wp2_with fail
      rw [show (⟨#[]⟩ : ByteArray) = B [] from rfl]
      refine (stamp_any [] b (by decide) hb _ (ht.old o2)).mono ?_
      rintro e w3 ⟨⟨-, rfl⟩ | ⟨l', q0, hO, -⟩, k3⟩
      · rw [open_nil.2]
        have o3 := o2.tr k3
        go_wp2
        go_ret
        exact ⟨rfl, o3⟩
      · rw [open_nil.1] at hO; cases hO
    rw [buildTV_yes a he]
    have hO := openO_tbl l a ha he hok
    have hla := (tbl_len a he)
    have hth := tbl_head l a
    have hth2 := tbl_head l b
    have hsl := tbl_same_len l a b
    have hbt := buildTV_yes b he
    clear he
    generalize tbl l a = s at *
    generalize htb : tbl l b = x at *
    generalize allB l ++ idx (texts l) ++ put (filt l) = hd at *
    have hs2 : s.length ≤ 400000 := by omega
    have h26 : 26 ≤ s.length := by omega
    clear hla
    go_wp2_with fail
    refine (stamp_any s b hs2 hb _ (ht.old o2)).mono ?_
    rintro e w3 ⟨⟨hN, -⟩ | ⟨l', q0, hO2, rfl⟩, k3⟩
    · rw [hO] at hN; cases hN
    rw [hO] at hO2
    injection hO2 with hO2
    injection hO2 with e1 e2
    subst e1 e2
    rw [htb]
    have o3 := o2.tr k3
    clear k3 o2 hO htb
    go_wp2_with fail
    refine (tbuild_any v l b _ (h.old o3) hok (by omega) hb (ht.old o3)).mono ?_
    rintro e w4 ⟨rfl, k4⟩
    rw [hbt]
    have o4 := o3.tr k4
    clear k4 o3 hbt
    have e26 : (s.length : Int) - 26 = ((s.length - 26 : Nat) : Int) := by omega
    have w26 : IntKind.i64.wrap ((s.length - 26 : Nat) : Int) = ((s.length - 26 : Nat) : Int) := by rw [IntKind.wrap_i64]; omega
    have HSL := fun W => str_to s (s.length - 26) (by omega) (by omega) W
    have HSX := fun W => str_to x (s.length - 26) (by omega) (by omega) W
    rw [hth] at HSL
    rw [← hsl] at hth2
    rw [hth2] at HSX
    have hlx : (x.length : Int) = (s.length : Int) := by omega
    clear hth hth2 hsl hs2 h26
    generalize s.length - 26 = m at *
    go_wp2_with fail
    go_quiet (fail)
    go_wp2
    go_ret
    exact ⟨rfl, o4.dn _⟩

set_option maxRecDepth 100000 in
theorem tableStamps_contract (H : Type) (enc : TypeId × Value → H) (W : World) (base : Nat) (args : Array Value) (ds gs : List (DataW H)) (before : List MemPlace)
    (hval0 : ∀ (j : Nat) t v, Tryd.f3.params[j]? = some t → args[j]? = some v → Value.okWide Tryd.prog W .any base t v)
    (hW : DataW.Whole enc Tryd.prog Tryd.f3.params.toList Rows.tableStampsSpec.vars false W args.toList ds gs before) (hL : laidMetH Tryd.prog Rows.tableStampsRow.laid W) :
    Calls Tryd.prog 3 args W fun e W' => ∃ v, e = .returned v ∧ Rows.tableStampsSpec.post enc Tryd.prog Tryd.f3 false true false false W args v W' := by
  have ht : Tab W := table hL
  have hval : ∀ (j : Nat) t v, Tryd.f3.params[j]? = some t → args[j]? = some v → Value.okWide Tryd.prog W .any base t v := hval0
  have hW' := hW
  obtain ⟨p, q, hA0, hV, rfl, hfz, hnd⟩ := hW
  have hA : DataW.TrodAll enc Tryd.prog W 0 (fun _ => true) true Tryd.f3.params.toList args.toList ds p := hA0
  rw [Tryd.params3] at hA hval
  obtain ⟨v0, v1, v2, d0, d1, d2, p0, p1, p2, rfl, rfl, rfl, h0, h1, h2⟩ := trodAll_three hA
  obtain ⟨rfl, rfl⟩ := trodVars_none hV
  have hlt : ∀ x ∈ p0 ++ (p1 ++ (p2)), x.block < W.heap.size := fun x hx => hW'.lt x (by simpa using hx)
  have k0 := h0
  have k1 := h1
  have k2 := h2
  obtain ⟨a0, o0, q0, m0, x0⟩ := open_cels (hval 0 22 v0 rfl rfl) h0 (fun x hx => hlt x (by simp [hx]))
  obtain ⟨a1, rfl, o1⟩ := open_u64 (hval 1 23 v1 rfl rfl) h1
  obtain ⟨a2, rfl, o2⟩ := open_u64 (hval 2 23 v2 rfl rfl) h2
  clear hA0 hval0
  refine (law_stamps v0 a0 a1 a2 W (o0.room x0) q0 m0 o1 o2 ht).mono fun e W' ⟨he, hb⟩ => ?_
  subst he
  refine ⟨_, rfl, _, _, _, [], p0 ++ (p1 ++ (p2)), [], hW', trodAll_mk1 (shut_bool Tryd.underlying4 _), ?_, rfl, hb.frame _, fun h => by cases h⟩
  have r0 := Below.trod Tryd.laidOut (by kernel_rfl) (of_decide_eq_true (by kernel_rfl)) k0 hb (fun x hx => hlt x (by simp [hx]))
  have r1 := Below.trod Tryd.laidOut (by kernel_rfl) (of_decide_eq_true (by kernel_rfl)) k1 hb (fun x hx => hlt x (by simp [hx]))
  have r2 := Below.trod Tryd.laidOut (by kernel_rfl) (of_decide_eq_true (by kernel_rfl)) k2 hb (fun x hx => hlt x (by simp [hx]))
  exact trodAll_mk3 r0 r1 r2

set_option maxRecDepth 100000 in
theorem tableStamps_met (os : Os) : laidMet Tryd.prog Rows.tableStampsRow.laid ((laidWorld os).forCall (fun _ _ => 0) ⟨#[], #[.slice none 0 0, .int .u64 0, .int .u64 0], []⟩).memory :=
  laidMet_of_run' 8 (by kernel_rfl) (by kernel_rfl)
set_option maxRecDepth 100000 in
theorem tableStamps_reads (os : Os) {H : Type} (enc : TypeId × Value → H) : ∃ places, DataW.whole enc Tryd.prog ((laidWorld os).forCall (fun _ _ => 0) ⟨#[], #[.slice none 0 0, .int .u64 0, .int .u64 0], []⟩).memory Tryd.f3.params.toList Rows.tableStampsSpec.vars false (#[.slice none 0 0, .int .u64 0, .int .u64 0] : Array Value).toList 8 = some ([.nil, .lit (.int .u64 0), .lit (.int .u64 0)], [], places) :=
  ⟨[], by kernel_rfl⟩

set_option maxRecDepth 100000 in
theorem tableStamps_lifted (os : Os) (started : os.Started) (H : Type) (enc : TypeId × Value → H) (F : Stop.Interp) :
    ReturnsInHanded {} Tryd.checked os 3 .any ((OpenSpec.ofChange Rows.tableStampsSpec).preRow enc Tryd.prog Tryd.f3 Rows.tableStampsRow.domain false Rows.tableStampsRow.laid) (((OpenSpec.ofChange Rows.tableStampsSpec).at F).post enc Tryd.prog Tryd.f3 false true false false) := by
  obtain ⟨places, hx⟩ := tableStamps_reads os enc
  refine returnsInHanded_of_row (C := Tryd.checked) (s := OpenSpec.ofChange Rows.tableStampsSpec) Tryd.own started (by kernel_rfl) Tryd.func3
    (witness_row_at (enc := enc) (C := Tryd.checked) false (laidWorld os) #[.slice none 0 0, .int .u64 0, .int .u64 0] rfl (by kernel_rfl) (by kernel_rfl) (by kernel_rfl)
      (OpenSpec.preRow_of_cond 8 hx (by kernel_rfl) (fun k hk => by cases hk) (by kernel_rfl) (tableStamps_met os))) ?_
  intro W base args ds gs before hval hW _ _ _ hL _ _
  exact tableStamps_contract H enc W base args ds gs before hval hW hL

set_option maxRecDepth 100000 in
theorem tableStamps_said : Rows.TableStampsSaid :=
  OpenClaim.holds_of_cond 3 Tryd.f3 rfl rfl rfl rfl rfl rfl rfl ⟨rfl, rfl, rfl, rfl, rfl⟩ rfl rfl rfl rfl rfl (by kernel_rfl) Tryd.func3 (by kernel_rfl)
    (of_decide_eq_true (by kernel_rfl)) (by unfold Func.isWrapper; first | (rw [if_pos (by decide +kernel)]; kernel_rfl) | (rw [if_neg (by decide +kernel)]; exact ⟨rfl, rfl⟩))
    (fun os started H enc _ F => by rw [OpenClaim.pre_eq_preRow]; exact tableStamps_lifted os started H enc F)

set_option maxRecDepth 100000 in
theorem tableStamps_plain (f : FuncId) (fn : Func) (hf : Tryd.pinned.checked.prog.funcNamed Rows.tableStampsRow.func = some f) (hfn : Tryd.pinned.checked.prog.funcs[f]? = some fn) :
    false = Tryd.pinned.checked.prog.looks [] ∧ ∀ (j : Nat) t, fn.params[j]? = some t → Tryd.pinned.checked.prog.wantsStandIn t = false := by
  obtain rfl : f = 3 := Option.some.inj ((show Tryd.prog.funcNamed Rows.tableStampsRow.func = some 3 by kernel_rfl).symm.trans hf) |>.symm
  obtain rfl : fn = Tryd.f3 := (Option.some.inj (Tryd.func3.symm.trans hfn)).symm
  refine ⟨by kernel_rfl, fun j t ht => ?_⟩
  rw [Tryd.params3] at ht
  have hm := Array.mem_of_getElem? ht
  simp only [List.mem_toArray, List.mem_cons, List.not_mem_nil, or_false] at hm
  rcases hm with rfl | rfl | rfl
  all_goals first
    | exact (show Tryd.prog.wantsStandIn 22 = false by kernel_rfl)
    | exact (show Tryd.prog.wantsStandIn 23 = false by kernel_rfl)

set_option maxRecDepth 100000 in
theorem tableStamps_card : Rows.TableStampsCardSaid :=
  Claim7.holds_tied_plain_at .later [] _ _ _ _ tableStamps_said (fun _ h => by cases h) (by kernel_rfl) (fun _ h => by cases h) tableStamps_row_tie rfl ⟨rfl, rfl⟩ (by kernel_rfl) rfl tableStamps_plain (by kernel_rfl)
#print axioms tableStamps_card
end Go.Proofs.YtlmlopdakbbbjaaDoor
