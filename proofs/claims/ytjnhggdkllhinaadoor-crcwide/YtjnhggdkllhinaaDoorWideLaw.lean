/-
  CrcWide: whatever numbers come in, the law answers true, and leaves all as it was. Condition: the table is laid as the program's text lays it.
-/
import Derived.Test.YtjnhggdkllhinaaDoorLift
namespace Go.Proofs.YtjnhggdkllhinaaDoor
open Go.ChangeShapes Go.WideShapes Go.ChangeAt Go.RowKit Go.Joins Go.Deep

/-- string(v), v a slice whose cells are these bytes. -/
theorem run_strAt {w : World} {g cap : Nat} (l : List UInt8) (h : ∀ j u, (bs l)[j]? = some u → w.cell? (Addr.add ⟨g, 0, none⟩ j) = some u) :
    (convert 38 9 (.slice (some ⟨g, 0, none⟩) l.length cap)).run Tryd.prog w = .ok (.string (B l)) w := by
  rw [run_convert_bytes_string w _ _ _ _ _ _ Tryd.underlying38 Tryd.underlying5 Tryd.underlying9]
  rw [run_bytesToString w ⟨g, 0, none⟩ l.length cap (l.map fun b => (b.toNat : Int)) ?_]
  · rw [fold_push]
    show Result.ok (Value.string ⟨#[] ++ l.toArray⟩) w = _
    rw [Array.empty_append]
  · have h1 := run_loadCells_list (P := Tryd.prog) w ⟨g, 0, none⟩ (bs l) h
    rw [bs_length] at h1
    rw [h1]
    simp [bs]

/-- string(make([]byte, n)): n bytes 0. -/
theorem made (N : Nat) (hN : N ≤ 100000) (w : World) : ∃ w1 v, (Instr.makeSlice 38 (.int .i64 N) (.int .i64 N)).run Tryd.prog w = .ok v w1 ∧
    (convert 38 9 v).run Tryd.prog w1 = .ok (.string (B (List.replicate N 0))) w1 ∧ Old w w1 := by
  obtain ⟨i0, hi, hz0, hz1, hz2⟩ := info_parts Tryd.info5
  have hr := run_make (P := Tryd.prog) w 38 5 i0 (.int .u8 0) Tryd.underlying38 hi hz0 .i64 .i64 N N (by omega) (by omega) (by rw [hz2]; omega) (by omega)
  refine ⟨_, _, hr, ?_, old_alloc _ _⟩
  rw [Int.toNat_natCast, hz1, Nat.mul_one]
  have h2 := run_strAt (w := w.alloc (.cells (madeCells (Value.int .u8 0).cells N) 5)) (g := w.heap.size) (cap := N) (List.replicate N 0) ?_
  · rw [List.length_replicate] at h2
    exact h2
  · intro j u hu
    have h1 := cell_of_row _ w.heap.size j _ _ _ (heap_alloc_new w (.cells (madeCells (Value.int .u8 0).cells N) 5))
    rw [Addr.add_lit, Nat.zero_add, h1]
    simp only [bs, List.map_replicate, List.getElem?_replicate] at hu
    split at hu
    · rename_i hj
      cases hu
      simp [madeCells, hj, Value.cells, Nat.mod_one]
    · cases hu

set_option maxRecDepth 10000 in
set_option maxHeartbeats 2000000 in
theorem law_wide (n m : Nat) (hn : n < 65536) (hm : m < 256) (w : World) (ht : Tab w) :
    Calls Tryd.prog 8 #[.int .u16 n, .int .u8 m] w fun e w' => e = .returned (.bool true) ∧ Old w w' := by
  obtain ⟨w1, v, hmk0, hcv, h1⟩ := made 65700 (by omega) w
  have hmk : (Instr.makeSlice 38 (.int .i64 65700) (.int .i64 65700)).run Tryd.prog w = .ok v w1 := hmk0
  clear hmk0
  have hz : (List.replicate 65700 (0 : UInt8)).length = 65700 := List.length_replicate
  generalize List.replicate 65700 (0 : UInt8) = z at *
  have ht1 := ht.old h1
  have hk : ∃ k : Nat, k = 65400 + n % 136 + m % 100 := ⟨_, rfl⟩
  obtain ⟨k, hk⟩ := hk
  have hkI : (65400 : Int) + (n : Int) % 136 + (m : Int) % 100 = (k : Int) := by omega
  have hk2 : k ≤ 65700 := by omega
  clear hk
  have xn : (B z).extract 0 k = B (z.take k) := ext_take _ _
  have hzk : (z.take k).length = k := by simp; omega
  go_enter Tryd.func8, Tryd.ntmps8
  go_wp2_with fail
  clear xn hcv hmk
  generalize z.take k = y at *
  by_cases hw : k ≤ 65535
  · refine (put_yes y (by omega) _ ht1).mono ?_
    rintro e w2 ⟨rfl, h2⟩
    have HG := Lib.hid (show getV (put y) = (y, 6 + y.length, 0) by have := getV_put y [] (by omega); rwa [List.append_nil] at this)
    have hp := put_length y
    generalize put y = p at *
    have h3 := h1.tr h2
    have ht2 := ht.old h3
    clear h2 h1 ht1
    go_wp2_with fail
    refine (get_any p (by omega) _ ht2).mono ?_
    rintro e w3 ⟨rfl, h2⟩
    have h4 := h3.tr h2.old
    have ht3 := ht.old h4
    clear h2 h3 ht2
    rw [getR_of HG.out]
    have hq : ((6 + y.length : Nat) : Int) = (k : Int) + 6 := by omega
    rw [hq]
    have hpl : (p.length : Int) = (k : Int) + 6 := by omega
    go_wp2_with fail
    refine (shown_any _ ht3).mono ?_
    rintro e w4 ⟨rfl, h5⟩
    go_wp2
    go_ret
    exact ⟨rfl, h4.tr h5⟩
  · refine (put_no y (by omega) (by omega) _).mono ?_
    rintro e w2 ⟨rfl, rfl⟩
    go_wp2_with fail
    refine (shown_any _ ht1).mono ?_
    rintro e w4 ⟨rfl, h5⟩
    go_wp2
    go_ret
    exact ⟨rfl, h1.tr h5⟩

theorem crcWide_contract (H : Type) (enc : TypeId × Value → H) (W : World) (base : Nat) (args : Array Value) (ds gs : List (DataW H)) (before : List MemPlace)
    (hval0 : ∀ (j : Nat) t v, Tryd.f8.params[j]? = some t → args[j]? = some v → Value.okWide Tryd.prog W .any base t v)
    (hW : DataW.Whole enc Tryd.prog Tryd.f8.params.toList Rows.crcWideSpec.vars false W args.toList ds gs before) (hL : laidMetH Tryd.prog Rows.crcWideRow.laid W) :
    Calls Tryd.prog 8 args W fun e W' => ∃ v, e = .returned v ∧ Rows.crcWideSpec.post enc Tryd.prog Tryd.f8 false true false false W args v W' := by
  have ht : Tab W := table hL
  have hval : ∀ (j : Nat) t v, Tryd.f8.params[j]? = some t → args[j]? = some v → Value.okWide Tryd.prog W .any base t v := hval0
  have hW' := hW
  obtain ⟨p, q, hA0, hV, rfl, hfz, hnd⟩ := hW
  have hA : DataW.TrodAll enc Tryd.prog W 0 (fun _ => true) true Tryd.f8.params.toList args.toList ds p := hA0
  rw [Tryd.params8] at hA hval
  obtain ⟨v0, v1, d0, d1, p0, p1, rfl, rfl, rfl, h0, h1⟩ := trodAll_two hA
  obtain ⟨rfl, rfl⟩ := trodVars_none hV
  have hlt : ∀ x ∈ p0 ++ (p1), x.block < W.heap.size := fun x hx => hW'.lt x (by simpa using hx)
  have k0 := h0
  have k1 := h1
  obtain ⟨a0, rfl, o0⟩ := open_u16 (hval 0 37 v0 rfl rfl) h0
  obtain ⟨a1, rfl, o1⟩ := open_u8 (hval 1 5 v1 rfl rfl) h1
  clear hA0 hval0
  refine (law_wide a0 a1 o0 o1 W ht).mono fun e W' ⟨he, hb⟩ => ?_
  subst he
  refine ⟨_, rfl, _, _, _, [], p0 ++ (p1), [], hW', trodAll_mk1 (shut_bool Tryd.underlying4 _), ?_, rfl, hb.frame _, fun h => by cases h⟩
  have r0 := Below.trod Tryd.laidOut (by kernel_rfl) (of_decide_eq_true (by kernel_rfl)) k0 hb (fun x hx => hlt x (by simp [hx]))
  have r1 := Below.trod Tryd.laidOut (by kernel_rfl) (of_decide_eq_true (by kernel_rfl)) k1 hb (fun x hx => hlt x (by simp [hx]))
  exact trodAll_mk2 r0 r1

theorem crcWide_met (os : Os) : laidMet Tryd.prog Rows.crcWideRow.laid ((laidWorld os).forCall (fun _ _ => 0) ⟨#[], #[.int .u16 0, .int .u8 0], []⟩).memory :=
  laidMet_of_run' 8 (by kernel_rfl) (by kernel_rfl)
theorem crcWide_reads (os : Os) {H : Type} (enc : TypeId × Value → H) : ∃ places, DataW.whole enc Tryd.prog ((laidWorld os).forCall (fun _ _ => 0) ⟨#[], #[.int .u16 0, .int .u8 0], []⟩).memory Tryd.f8.params.toList Rows.crcWideSpec.vars false (#[.int .u16 0, .int .u8 0] : Array Value).toList 8 = some ([.lit (.int .u16 0), .lit (.int .u8 0)], [], places) :=
  ⟨[], by kernel_rfl⟩

set_option maxRecDepth 100000 in
theorem crcWide_lifted (os : Os) (started : os.Started) (H : Type) (enc : TypeId × Value → H) (F : Stop.Interp) :
    ReturnsInHanded {} Tryd.checked os 8 .any ((OpenSpec.ofChange Rows.crcWideSpec).preRow enc Tryd.prog Tryd.f8 Rows.crcWideRow.domain false Rows.crcWideRow.laid) (((OpenSpec.ofChange Rows.crcWideSpec).at F).post enc Tryd.prog Tryd.f8 false true false false) := by
  obtain ⟨places, hx⟩ := crcWide_reads os enc
  refine returnsInHanded_of_row (C := Tryd.checked) (s := OpenSpec.ofChange Rows.crcWideSpec) Tryd.own started (by kernel_rfl) Tryd.func8
    (witness_row_at (enc := enc) (C := Tryd.checked) false (laidWorld os) #[.int .u16 0, .int .u8 0] rfl (by kernel_rfl) (by kernel_rfl) (by kernel_rfl)
      (OpenSpec.preRow_of_cond 8 hx (by kernel_rfl) (fun k hk => by cases hk) (by kernel_rfl) (crcWide_met os))) ?_
  intro W base args ds gs before hval hW _ _ _ hL _ _
  exact crcWide_contract H enc W base args ds gs before hval hW hL

theorem crcWide_said : Rows.CrcWideSaid :=
  OpenClaim.holds_of_cond 8 Tryd.f8 rfl rfl rfl rfl rfl rfl rfl ⟨rfl, rfl, rfl, rfl, rfl⟩ rfl rfl rfl rfl rfl (by kernel_rfl) Tryd.func8 (by kernel_rfl)
    (of_decide_eq_true (by kernel_rfl)) (by unfold Func.isWrapper; first | (rw [if_pos (by decide +kernel)]; kernel_rfl) | (rw [if_neg (by decide +kernel)]; exact ⟨rfl, rfl⟩))
    (fun os started H enc _ F => by rw [OpenClaim.pre_eq_preRow]; exact crcWide_lifted os started H enc F)

theorem crcWide_plain (f : FuncId) (fn : Func) (hf : Tryd.pinned.checked.prog.funcNamed Rows.crcWideRow.func = some f) (hfn : Tryd.pinned.checked.prog.funcs[f]? = some fn) :
    false = Tryd.pinned.checked.prog.looks [] ∧ ∀ (j : Nat) t, fn.params[j]? = some t → Tryd.pinned.checked.prog.wantsStandIn t = false := by
  obtain rfl : f = 8 := Option.some.inj ((show Tryd.prog.funcNamed Rows.crcWideRow.func = some 8 by kernel_rfl).symm.trans hf) |>.symm
  obtain rfl : fn = Tryd.f8 := (Option.some.inj (Tryd.func8.symm.trans hfn)).symm
  refine ⟨by kernel_rfl, fun j t ht => ?_⟩
  rw [Tryd.params8] at ht
  have hm := Array.mem_of_getElem? ht
  simp only [List.mem_toArray, List.mem_cons, List.not_mem_nil, or_false] at hm
  rcases hm with rfl | rfl
  all_goals first
    | exact (show Tryd.prog.wantsStandIn 37 = false by kernel_rfl)
    | exact (show Tryd.prog.wantsStandIn 5 = false by kernel_rfl)

theorem crcWide_card : Rows.CrcWideCardSaid :=
  Claim7.holds_tied_plain_at .later [] _ _ _ _ crcWide_said (fun _ h => by cases h) (by kernel_rfl) (fun _ h => by cases h) crcWide_row_tie rfl ⟨rfl, rfl⟩ (by kernel_rfl) rfl crcWide_plain (by kernel_rfl)
#print axioms crcWide_card
end Go.Proofs.YtjnhggdkllhinaaDoor
