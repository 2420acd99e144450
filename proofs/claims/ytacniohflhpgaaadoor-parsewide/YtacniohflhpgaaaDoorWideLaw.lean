/-
  ParseWide: whatever numbers come in, the law answers true, and leaves all as it was. Conditions: the program's variables hold what its text lays.
-/
import Derived.Test.YtacniohflhpgaaaDoorPMem
import Derived.Test.YtacniohflhpgaaaDoorPLft
namespace Go.Proofs.YtacniohflhpgaaaDoor
open Go.ChangeShapes Go.WideShapes Go.ChangeAt Go.RowKit Go.Joins Go.Deep

theorem scan_empty (m : Nat) : ∀ j, scan j (List.replicate m []) = .ok [] := by
  induction m with
  | zero => intro j; rfl
  | succ m ih => intro j; rw [List.replicate_succ, scan_nothing j [] _ rfl, ih]
theorem spl_tens (k : Nat) : spl 10 (List.replicate k 10) = List.replicate (k + 1) [] := by
  induction k with
  | zero => rfl
  | succ k ih => rw [List.replicate_succ, spl_eq, ih]; rfl
theorem tens_scan (k : Nat) : scan 0 (spl 10 (List.replicate k 10)) = .ok [] := by rw [spl_tens, scan_empty]
theorem x_scan (k : Nat) : scan 0 (spl 10 (120 :: List.replicate (k + 1) 10)) = .error 1 := by
  rw [show (120 :: List.replicate (k + 1) 10 : List UInt8) = [120] ++ 10 :: List.replicate k 10 from rfl, spl_app 10 [120] _ (by decide)]
  exact scan_none 0 [120] _ rfl (by kernel_rfl)
/-- What Cells tells of so many bytes. -/
def wbytes (wrong : Bool) : List UInt8 := if wrong then 120 :: List.replicate 4099 10 else List.replicate 4100 10
theorem w_take_no (k : Nat) (h : k ≤ 4100) : (wbytes false).take k = List.replicate k 10 := by
  show (List.replicate 4100 10).take k = _
  rw [List.take_replicate, Nat.min_eq_left h]
theorem w_take_yes (k : Nat) (h : k + 2 ≤ 4100) : (wbytes true).take (k + 2) = 120 :: List.replicate (k + 1) 10 := by
  show (120 :: List.replicate 4099 10).take (k + 1 + 1) = _
  rw [List.take_succ_cons, List.take_replicate, Nat.min_eq_left (by omega)]
theorem w_out (wrong : Bool) (k : Nat) (h1 : 3900 ≤ k) (h2 : k ≤ 4100) :
    ((wbytes wrong).take k).length = k ∧ outL ((wbytes wrong).take k) = [] ∧ (outN ((wbytes wrong).take k) = if 4000 < k then 0 else if wrong then 1 else 0) ∧ (outE ((wbytes wrong).take k) = if 4000 < k then 71 else if wrong then 70 else 0) := by
  have hl : ((wbytes wrong).take k).length = k := by
    rw [List.length_take]
    have : (wbytes wrong).length = 4100 := by
      cases wrong
      · exact List.length_replicate
      · show (120 :: List.replicate 4099 10).length = 4100
        rw [List.length_cons, List.length_replicate]
    omega
  refine ⟨hl, ?_⟩
  unfold outL outN outE
  rw [hl]
  by_cases hk : 4000 < k
  · simp only [if_pos hk]; exact ⟨trivial, trivial, trivial⟩
  · simp only [if_neg hk]
    cases wrong with
    | false =>
      rw [w_take_no k h2, tens_scan]
      exact ⟨rfl, rfl, rfl⟩
    | true =>
      obtain ⟨j, rfl⟩ : ∃ j, k = j + 2 := ⟨k - 2, by omega⟩
      rw [w_take_yes j h2, x_scan]
      exact ⟨rfl, rfl, rfl⟩
theorem fill_set (k : Nat) (h : k < 4100) : (bs (List.replicate k 10 ++ List.replicate (4100 - k) 0)).toArray.setIfInBounds k (.int .u8 10) = (bs (List.replicate (k + 1) 10 ++ List.replicate (4100 - (k + 1)) 0)).toArray := by
  have e : (List.replicate k 10 ++ List.replicate (4100 - k) 0 : List UInt8).set k 10 = List.replicate (k + 1) 10 ++ List.replicate (4100 - (k + 1)) 0 := by
    obtain ⟨m, hm⟩ : ∃ m, 4100 - k = m + 1 := ⟨4100 - k - 1, by omega⟩
    rw [show 4100 - (k + 1) = m by omega, hm, List.set_append_right _ _ (by simp)]
    rw [List.length_replicate, Nat.sub_self, List.replicate_succ, List.set_cons_zero, List.replicate_succ']
    simp
  rw [← e, bs_set]
  simp

theorem fill_at (j : Nat) (h : j < 4100) : (bs (List.replicate j 10 ++ List.replicate (4100 - j) 0)).toArray[j]? = some (.int .u8 0) := by
  rw [List.getElem?_toArray, bs, List.getElem?_map, List.getElem?_append_right (by simp), List.length_replicate, Nat.sub_self, List.getElem?_replicate, if_pos (by omega)]
  rfl
theorem fill_end : List.replicate 4100 10 ++ List.replicate (4100 - 4100) 0 = wbytes false := by
  rw [Nat.sub_self, List.replicate_zero, List.append_nil]; rfl
theorem fill_x : (bs (wbytes false)).toArray.setIfInBounds 0 (.int .u8 120) = (bs (wbytes true)).toArray := by
  have e : (wbytes false).set 0 120 = wbytes true := by
    show (List.replicate (4099 + 1) 10).set 0 120 = _
    rw [List.replicate_succ, List.set_cons_zero]
    rfl
  rw [← e, bs_set]
  simp
theorem w_head : (bs (wbytes false)).toArray[0]? = some (.int .u8 10) := by
  show (bs (List.replicate (4099 + 1) 10)).toArray[0]? = _
  rw [List.getElem?_toArray, bs, List.replicate_succ, List.map_cons, List.getElem?_cons_zero]
  rfl
theorem w_len (b : Bool) : (wbytes b).length = 4100 := by
  cases b
  · exact List.length_replicate
  · show (120 :: List.replicate 4099 10).length = 4100
    rw [List.length_cons, List.length_replicate]

set_option maxRecDepth 10000 in
set_option maxHeartbeats 4000000 in
theorem law_wide (n : Nat) (wrong : Bool) (hn : n < 65536) (w : World) (ht : Env w) :
    Calls Tryd.prog 7 #[.int .u16 n, .bool wrong] w fun e w' => e = .returned (.bool true) ∧ Old w w' := by
  obtain ⟨w1, hmk0, hb1, o1⟩ := made 4100 (by omega) w
  have hmk : (Instr.makeSlice 37 (.int .i64 4100) (.int .i64 4100)).run Tryd.prog w = .ok (.slice (some ⟨w.heap.size, 0, none⟩) 4100 4100) w1 := hmk0
  clear hmk0
  obtain ⟨k, hk⟩ : ∃ k : Nat, k = 3900 + n % 200 := ⟨_, rfl⟩
  have hkI : (3900 : Int) + (n : Int) % 200 = (k : Int) := by omega
  have hk1 : 3900 ≤ k := by omega
  have hk2 : k ≤ 4100 := by omega
  clear hk
  go_enter Tryd.func7, Tryd.ntmps7
  go_wp2_with fail
  go_loopw [7] (fun i wr => ∃ j : Nat, j ≤ 4100 ∧ i = .int .i64 j ∧ Bk wr w.heap.size 5 (bs (List.replicate j 10 ++ List.replicate (4100 - j) 0)).toArray ∧ Old w wr) (fun i _ => 4100 - (intOf i).toNat)
  case atStart => exact ⟨0, by omega, rfl, hb1, o1⟩
  case round =>
    obtain ⟨j, hj, rfl, hb, ho⟩ := hrel
    by_cases hlt : j < 4100
    · have hB := hb.set_ j (.int .u8 10)
      rw [fill_set j hlt] at hB
      have hc : wr.cell? ⟨w.heap.size, j, none⟩ = some (.int .u8 0) := by
        rw [hb.cell]
        exact fill_at j hlt
      have hf := hb.fr j
      have HO := Lib.hid (ho.st (p := ⟨w.heap.size, j, none⟩) (Nat.le_refl _) (.int .u8 10))
      have HB := Lib.hid hB
      clear hB hb
      have hI : decide ((j : Int) < 4100) = true := by simp; omega
      go_wp2
      go_roundw
      case rel => exact ⟨j + 1, by omega, by go_num, HB.out, HO.out⟩
      case measure => simp [intOf]; omega
    · obtain rfl : j = 4100 := by omega
      rw [fill_end] at hb
      have kI1 : (k : Int) ≤ 4100 := by omega
      clear hb1 o1 hmk
      cases wrong with
      | false =>
        have hcv := bk_str (cap := 4100) hb k (by rw [w_len]; exact hk2)
        have HW := Lib.hid (w_out false k hk1 hk2)
        have hyl : ((wbytes false).take k).length ≤ 1000000 := by rw [(w_out false k hk1 hk2).1]; omega
        have C := cells_any ((wbytes false).take k) wr (ht.old ho) hyl
        clear hb
        generalize (wbytes false).take k = y at *
        go_wp2_with (go_at_call 9; refine C.mono ?_; rintro e w3 ⟨v, rfl, hw3, o3⟩; refine Hid.out ?_)
        obtain ⟨-, x1, x2, x3⟩ := HW.out
        rw [x1] at hw3
        obtain ⟨A, cap, rfl⟩ := hw3.form2
        rw [x2, x3]
        have o4 := ho.tr o3
        have D := shown_any w3 (ht.old o4)
        by_cases hbig : 4000 < k
        · rw [if_pos hbig, if_pos hbig]
          have hbI : (4000 : Int) < (k : Int) := by omega
          refine Lib.hid ?_
          go_wp2_with (go_at_call 8; refine D.mono ?_; rintro e w4 ⟨rfl, o5⟩)
          go_ret
          exact ⟨rfl, o4.tr o5⟩
        · rw [if_neg hbig, if_neg hbig]
          have hbI : (k : Int) ≤ 4000 := by omega
          refine Lib.hid ?_
          go_wp2_with (go_at_call 8; refine D.mono ?_; rintro e w4 ⟨rfl, o5⟩)
          go_ret
          exact ⟨rfl, o4.tr o5⟩
      | true =>
        have hc : wr.cell? ⟨w.heap.size, 0, none⟩ = some (.int .u8 10) := by rw [hb.cell]; exact w_head
        have hf := hb.fr 0
        have hB := hb.set_ 0 (.int .u8 120)
        rw [fill_x] at hB
        have hO := ho.st (p := ⟨w.heap.size, 0, none⟩) (Nat.le_refl _) (.int .u8 120)
        clear hb
        go_upto_region 9 with (fail)
        generalize wr.setCell ⟨w.heap.size, 0, none⟩ (.int .u8 120) = w2 at *
        have hcv := bk_str (cap := 4100) hB k (by rw [w_len]; exact hk2)
        have HW := Lib.hid (w_out true k hk1 hk2)
        have hyl : ((wbytes true).take k).length ≤ 1000000 := by rw [(w_out true k hk1 hk2).1]; omega
        have C := cells_any ((wbytes true).take k) w2 (ht.old hO) hyl
        clear hB
        generalize (wbytes true).take k = y at *
        go_wp2_with (go_at_call 9; refine C.mono ?_; rintro e w3 ⟨v, rfl, hw3, o3⟩; refine Hid.out ?_)
        obtain ⟨-, x1, x2, x3⟩ := HW.out
        rw [x1] at hw3
        obtain ⟨A, cap, rfl⟩ := hw3.form2
        rw [x2, x3]
        have o4 := hO.tr o3
        have D := shown_any w3 (ht.old o4)
        by_cases hbig : 4000 < k
        · rw [if_pos hbig, if_pos hbig]
          have hbI : (4000 : Int) < (k : Int) := by omega
          refine Lib.hid ?_
          go_wp2_with (go_at_call 8; refine D.mono ?_; rintro e w4 ⟨rfl, o5⟩)
          go_ret
          exact ⟨rfl, o4.tr o5⟩
        · rw [if_neg hbig, if_neg hbig]
          have hbI : (k : Int) ≤ 4000 := by omega
          refine Lib.hid ?_
          go_wp2_with (go_at_call 8; refine D.mono ?_; rintro e w4 ⟨rfl, o5⟩)
          go_ret
          exact ⟨rfl, o4.tr o5⟩

set_option maxRecDepth 100000 in
theorem parseWide_contract (H : Type) (enc : TypeId × Value → H) (W : World) (base : Nat) (args : Array Value) (ds gs : List (DataW H)) (before : List MemPlace)
    (hval0 : ∀ (j : Nat) t v, Tryd.f7.params[j]? = some t → args[j]? = some v → Value.okWide Tryd.prog W .any base t v)
    (hW : DataW.Whole enc Tryd.prog Tryd.f7.params.toList Rows.parseWideSpec.vars false W args.toList ds gs before) (hL : laidMetH Tryd.prog Rows.parseWideRow.laid W) (sh : W.ShapedOpen Tryd.prog) :
    Calls Tryd.prog 7 args W fun e W' => ∃ v, e = .returned v ∧ Rows.parseWideSpec.post enc Tryd.prog Tryd.f7 false true false false W args v W' := by
  have ht : Env W := envP hL sh
  have hval : ∀ (j : Nat) t v, Tryd.f7.params[j]? = some t → args[j]? = some v → Value.okWide Tryd.prog W .any base t v := hval0
  have hW' := hW
  obtain ⟨p, q, hA0, hV, rfl, hfz, hnd⟩ := hW
  have hA : DataW.TrodAll enc Tryd.prog W 0 (fun _ => true) true Tryd.f7.params.toList args.toList ds p := hA0
  rw [Tryd.params7] at hA hval
  obtain ⟨v0, v1, d0, d1, p0, p1, rfl, rfl, rfl, h0, h1⟩ := trodAll_two hA
  obtain ⟨rfl, rfl⟩ := trodVars_none hV
  have hlt : ∀ x ∈ p0 ++ (p1), x.block < W.heap.size := fun x hx => hW'.lt x (by simpa using hx)
  have k0 := h0
  have k1 := h1
  obtain ⟨a0, rfl, o0⟩ := open_u16 (hval 0 41 v0 rfl rfl) h0
  obtain ⟨a1, rfl⟩ := open_bl (hval 1 4 v1 rfl rfl) h1
  clear hA0 hval0
  refine (law_wide a0 a1 o0 W ht).mono fun e W' ⟨he, hb⟩ => ?_
  subst he
  refine ⟨_, rfl, _, _, _, [], p0 ++ (p1), [], hW', trodAll_mk1 (shut_bool Tryd.underlying4 _), ?_, rfl, hb.frame _, fun h => by cases h⟩
  have r0 := Below.trod Tryd.laidOut (by kernel_rfl) (of_decide_eq_true (by kernel_rfl)) k0 hb (fun x hx => hlt x (by simp [hx]))
  have r1 := Below.trod Tryd.laidOut (by kernel_rfl) (of_decide_eq_true (by kernel_rfl)) k1 hb (fun x hx => hlt x (by simp [hx]))
  exact trodAll_mk2 r0 r1

set_option maxRecDepth 100000 in
theorem parseWide_met (os : Os) : laidMet Tryd.prog Rows.parseWideRow.laid ((laidWorld os).forCall (fun _ _ => 0) ⟨#[], #[.int .u16 0, .bool false], []⟩).memory :=
  laidMet_of_run3 8 (by kernel_rfl) (by kernel_rfl) (by kernel_rfl)
set_option maxRecDepth 100000 in
theorem parseWide_reads (os : Os) {H : Type} (enc : TypeId × Value → H) : ∃ places, DataW.whole enc Tryd.prog ((laidWorld os).forCall (fun _ _ => 0) ⟨#[], #[.int .u16 0, .bool false], []⟩).memory Tryd.f7.params.toList Rows.parseWideSpec.vars false (#[.int .u16 0, .bool false] : Array Value).toList 8 = some ([.lit (.int .u16 0), .lit (.bool false)], [], places) :=
  ⟨[], by kernel_rfl⟩

set_option maxRecDepth 100000 in
theorem parseWide_lifted (os : Os) (started : os.Started) (H : Type) (enc : TypeId × Value → H) (F : Stop.Interp) :
    ReturnsInHanded {} Tryd.checked os 7 .any ((OpenSpec.ofChange Rows.parseWideSpec).preRow enc Tryd.prog Tryd.f7 Rows.parseWideRow.domain false Rows.parseWideRow.laid) (((OpenSpec.ofChange Rows.parseWideSpec).at F).post enc Tryd.prog Tryd.f7 false true false false) := by
  obtain ⟨places, hx⟩ := parseWide_reads os enc
  refine returnsInHanded_of_row (C := Tryd.checked) (s := OpenSpec.ofChange Rows.parseWideSpec) Tryd.own started (by kernel_rfl) Tryd.func7
    (witness_row_at (enc := enc) (C := Tryd.checked) false (laidWorld os) #[.int .u16 0, .bool false] rfl (by kernel_rfl) (by kernel_rfl) (by kernel_rfl)
      (OpenSpec.preRow_of_cond 8 hx (by kernel_rfl) (fun k hk => by cases hk) (by kernel_rfl) (parseWide_met os))) ?_
  intro W base args ds gs before hval hW _ _ _ hL sh _
  exact parseWide_contract H enc W base args ds gs before hval hW hL sh

set_option maxRecDepth 100000 in
theorem parseWide_said : Rows.ParseWideSaid :=
  OpenClaim.holds_of_cond 7 Tryd.f7 rfl rfl rfl rfl rfl rfl rfl ⟨rfl, rfl, rfl, rfl, rfl⟩ rfl rfl rfl rfl rfl (by kernel_rfl) Tryd.func7 (by kernel_rfl)
    (of_decide_eq_true (by kernel_rfl)) (by unfold Func.isWrapper; first | (rw [if_pos (by decide +kernel)]; kernel_rfl) | (rw [if_neg (by decide +kernel)]; exact ⟨rfl, rfl⟩))
    (fun os started H enc _ F => by rw [OpenClaim.pre_eq_preRow]; exact parseWide_lifted os started H enc F)

set_option maxRecDepth 100000 in
theorem parseWide_plain (f : FuncId) (fn : Func) (hf : Tryd.pinned.checked.prog.funcNamed Rows.parseWideRow.func = some f) (hfn : Tryd.pinned.checked.prog.funcs[f]? = some fn) :
    true = Tryd.pinned.checked.prog.looks [] ∧ ∀ (j : Nat) t, fn.params[j]? = some t → Tryd.pinned.checked.prog.wantsStandIn t = false := by
  obtain rfl : f = 7 := Option.some.inj ((show Tryd.prog.funcNamed Rows.parseWideRow.func = some 7 by kernel_rfl).symm.trans hf) |>.symm
  obtain rfl : fn = Tryd.f7 := (Option.some.inj (Tryd.func7.symm.trans hfn)).symm
  refine ⟨by kernel_rfl, fun j t ht => ?_⟩
  rw [Tryd.params7] at ht
  have hm := Array.mem_of_getElem? ht
  simp only [List.mem_toArray, List.mem_cons, List.not_mem_nil, or_false] at hm
  rcases hm with rfl | rfl
  all_goals first
    | exact (show Tryd.prog.wantsStandIn 41 = false by kernel_rfl)
    | exact (show Tryd.prog.wantsStandIn 4 = false by kernel_rfl)

set_option maxRecDepth 100000 in
theorem parseWide_card : Rows.ParseWideCardSaid :=
  Claim7.holds_tied_plain_at .later [] _ _ _ _ parseWide_said (fun _ h => by cases h) (by kernel_rfl) (fun _ h => by cases h) parseWide_row_tie rfl ⟨rfl, rfl⟩ (by kernel_rfl) rfl parseWide_plain (by kernel_rfl)
#print axioms parseWide_card
end Go.Proofs.YtacniohflhpgaaaDoor
