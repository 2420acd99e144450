/-
  ParseLines: whatever texts come in, the law answers true, and leaves all as it was. Conditions: the program's variables hold what its text lays.
-/
import Derived.Test.YtacniohflhpgaaaDoorPLin
import Derived.Test.YtacniohflhpgaaaDoorPLft
namespace Go.Proofs.YtacniohflhpgaaaDoor
open Go.ChangeShapes Go.WideShapes Go.ChangeAt Go.RowKit Go.Joins Go.Deep

theorem take_not {x : List UInt8} {k : Nat} (hk : k < x.length) (h : (10 : UInt8) ∉ x.take k) (h2 : x[k] ≠ 10) : (10 : UInt8) ∉ x.take (k + 1) := by
  rw [List.take_succ_eq_append_getElem hk, List.mem_append, not_or]
  exact ⟨h, by rw [List.mem_singleton]; exact Ne.symm h2⟩
theorem byte_ten {b : UInt8} : ((b.toNat : Int) = 10) ↔ b = 10 := by
  constructor
  · intro h
    apply UInt8.toNat.inj
    show b.toNat = 10
    omega
  · rintro rfl; rfl
theorem join_len {M : List (List UInt8)} {k : Nat} {x : List UInt8} (h : (joinL M).length ≤ 151 * k) (hx : x.length ≤ 150) : (joinL (M ++ [x])).length ≤ 151 * (k + 1) := by
  rw [joinL_snoc]
  simp
  omega

set_option maxRecDepth 10000 in
set_option maxHeartbeats 8000000 in
theorem law_lines (L : List (List UInt8)) (A : Option Addr) (cap : Nat) (w : World) (hS : Strs w A cap L) (ht : Env w) :
    Calls Tryd.prog 6 #[.slice A L.length cap] w fun e w' => e = .returned (.bool true) ∧ Old w w' := by
  have D := shown_any w ht
  by_cases hbig : 20 < L.length
  · have hI : (20 : Int) < (L.length : Int) := by omega
    go_enter Tryd.func6, Tryd.ntmps6
    go_wp2_with (go_at_call 8; refine D.mono ?_; rintro e w4 ⟨rfl, o5⟩)
    go_ret
    exact ⟨rfl, o5⟩
  · have hI : (L.length : Int) ≤ 20 := by omega
    go_enter Tryd.func6, Tryd.ntmps6
    go_wp2_with (go_at_call 8; refine D.mono ?_; rintro e w1 ⟨rfl, o1⟩; refine Hid.out ?_)
    have hS1 := hS.old o1
    have ht1 := ht.old o1
    clear hS D
    refine Lib.hid ?_
    go_wp2_with fail
    go_loopw [3, 4, 5, 6] (fun s v bad i wr => ∃ (k b : Nat) (all : List Cel), k ≤ L.length ∧ i = .int .i64 k ∧ s = .string (B (joinL (L.take k))) ∧ bad = .int .i64 b ∧ OwnC wr w1.heap.size v all ∧ Old w1 wr ∧ all.length ≤ k ∧ Hid (Kn (L.take k) b all ∧ (joinL (L.take k)).length ≤ 151 * k ∧ ∀ x ∈ L.take k, (10 : UInt8) ∉ x)) (fun _ _ _ i _ => L.length - (intOf i).toNat)
    case atStart =>
      refine ⟨0, 0, [], Nat.zero_le _, rfl, rfl, rfl, own_empty (new_bk _ _ _) (Nat.le_refl _), old_alloc _ _, Nat.le_refl _, Lib.hid ⟨Kn.nil, by simp [joinL], by simp⟩⟩
    case round =>
      obtain ⟨k, b, all, hk, rfl, rfl, rfl, hown, ho, hall, HK⟩ := hrel
      by_cases hlt : k < L.length
      · obtain ⟨hxm, bb, off, rfl, hc⟩ := (hS1.old ho).at_ k hlt
        have HT := Lib.hid (List.take_succ_eq_append_getElem hlt)
        have hkI : (k : Int) < (L.length : Int) := by omega
        generalize hxe : L[k] = x at *
        have HXE := Lib.hid hxe
        clear hxe
        by_cases hx : 150 < x.length
        · have hxI : (150 : Int) < (x.length : Int) := by omega
          have E := shown_any wr (ht1.old ho)
          go_wp2_with (go_at_call 8; refine E.mono ?_; rintro e w4 ⟨rfl, o5⟩)
          go_ret
          exact ⟨rfl, (o1.tr ho).tr o5⟩
        · have hxI : (x.length : Int) ≤ 150 := by omega
          go_wp2_with fail
          go_loop [7] (fun i => ∃ j : Nat, j ≤ x.length ∧ i = .int .i64 j ∧ Hid ((10 : UInt8) ∉ x.take j)) (fun i => x.length - (intOf i).toNat)
          case atStart => exact ⟨0, Nat.zero_le _, rfl, Lib.hid (by simp)⟩
          case round =>
            obtain ⟨j, hj, rfl, HJ⟩ := hrel
            by_cases hjl : j < x.length
            · have HB := Lib.hid (B_at x j hjl)
              by_cases h10 : x[j] = 10
              · have hb10 : ((B x)[j]'(by simpa [B, ByteArray.size] using hjl)) = 10 := HB.out.trans h10
                go_wp2
                go_ret
                exact ⟨rfl, o1.tr ho⟩
              · have hb10 : ¬ (((B x)[j]'(by simpa [B, ByteArray.size] using hjl)).toNat : Int) = 10 := fun e => h10 (HB.out.symm.trans (byte_ten.1 e))
                have HN := Lib.hid (take_not hjl HJ.out h10)
                clear h10
                go_wp2
                go_round
                case rel => exact ⟨j + 1, by omega, by go_num, HN⟩
                case measure => simp [intOf]; omega
            · obtain rfl : j = x.length := by omega
              have HX := Lib.hid (show (10 : UInt8) ∉ x by have := HJ.out; rwa [List.take_length] at this)
              clear HJ
              have C := cells_any x wr (ht1.old ho) (by omega)
              go_wp2_with (go_at_call 9; refine C.mono ?_; rintro e w3 ⟨v3, rfl, hw3, o3⟩; refine Hid.out ?_)
              have hOne := one_line x HX.out (by omega)
              have ho3 := ho.tr o3
              have hown3 := hown.old o3
              obtain ⟨A3, n3, cap3, rfl⟩ := hw3.form
              have hc3 := cell_old hc o3
              have hSI : ((joinL (L.take k)).length : Int) ≤ 3020 := by have := HK.out.2.1; omega
              have HS : Hid (joinL (L.take (k + 1)) = joinL (L.take k) ++ (x ++ [10])) := Lib.hid (by rw [HT.out, joinL_snoc])
              have HL : Hid ((joinL (L.take (k + 1))).length ≤ 151 * (k + 1) ∧ ∀ y ∈ L.take (k + 1), (10 : UInt8) ∉ y) := Lib.hid (by
                rw [HT.out]
                refine ⟨join_len HK.out.2.1 (by omega), fun y hy => ?_⟩
                rcases List.mem_append.1 hy with hy | hy
                · exact HK.out.2.2 y hy
                · rw [List.mem_singleton.1 hy]; exact HX.out)
              have HKn := Lib.hid HK.out.1
              have hMl : (L.take k).length = k := by rw [List.length_take]; omega
              generalize joinL (L.take k) = S at *
              rcases hOne with ⟨e0, l1, -⟩ | ⟨e0, l1, -⟩
              · rw [e0]
                have hlen : all.length + (outL x).length ≤ 100000 := by omega
                have HN : Hid (Kn (L.take (k + 1)) b (all ++ outL x)) := Lib.hid (by
                  rw [HT.out]
                  rcases Nat.eq_zero_or_pos b with rfl | hb
                  · exact HKn.out.ok x HX.out (by omega) e0
                  · exact HKn.out.bad hb x _)
                refine Lib.hid ?_
                go_wp2_with (at_builtin; refine wp_celsO rfl (.tmp 69) (.tmp 70) rfl (W0 := w1) ho3 _ all (outL x) rfl hown3 _ _ rfl hw3 hlen ?_; intro v8 w8 n8 o8; refine Hid.out ?_)
                have hc8 : w8.cell? ⟨bb, off + k, none⟩ = some (.string (B x)) := by
                  obtain ⟨-, b9, off9, e9, h9⟩ := (hS1.old o8).2 k x (by rw [List.getElem?_eq_getElem hlt, HXE.out])
                  injection e9 with e9
                  injection e9 with e10 e11
                  subst e10 e11
                  exact h9
                refine Lib.hid ?_
                go_wp2
                go_roundw
                case rel => exact ⟨k + 1, b, all ++ outL x, by omega, by go_num, by rw [HS.out]; exact congrArg Value.string (by simp only [add_B, List.append_assoc]), rfl, n8, o8, by rw [List.length_append]; omega, Lib.hid ⟨HN.out, HL.out⟩⟩
                case measure => simp [intOf]; omega
              · rw [e0]
                have hlen : all.length + (outL x).length ≤ 100000 := by rw [l1]; simp; omega
                rcases Nat.eq_zero_or_pos b with rfl | hb
                · have HN : Hid (Kn (L.take (k + 1)) (k + 1) (all ++ outL x)) := Lib.hid (by
                    rw [HT.out]
                    have := HKn.out.no x HX.out (by omega) (by omega) (all ++ outL x)
                    rwa [hMl] at this)
                  refine Lib.hid ?_
                  go_wp2_with (at_builtin; refine wp_celsO rfl (.tmp 69) (.tmp 70) rfl (W0 := w1) ho3 _ all (outL x) rfl hown3 _ _ rfl hw3 hlen ?_; intro v8 w8 n8 o8; refine Hid.out ?_)
                  have hc8 : w8.cell? ⟨bb, off + k, none⟩ = some (.string (B x)) := by
                    obtain ⟨-, b9, off9, e9, h9⟩ := (hS1.old o8).2 k x (by rw [List.getElem?_eq_getElem hlt, HXE.out])
                    injection e9 with e9
                    injection e9 with e10 e11
                    subst e10 e11
                    exact h9
                  refine Lib.hid ?_
                  go_wp2
                  go_roundw
                  case rel => exact ⟨k + 1, k + 1, all ++ outL x, by omega, by go_num, by rw [HS.out]; exact congrArg Value.string (by simp only [add_B, List.append_assoc]), by go_num, n8, o8, by rw [List.length_append, l1]; simp; omega, Lib.hid ⟨HN.out, HL.out⟩⟩
                  case measure => simp [intOf]; omega
                · have HN : Hid (Kn (L.take (k + 1)) b (all ++ outL x)) := Lib.hid (by rw [HT.out]; exact HKn.out.bad hb x _)
                  have hbI : ¬ (b : Int) = 0 := by omega
                  have hbB : ((b : Int) == 0) = false := by rw [beq_eq_false_iff_ne]; exact hbI
                  refine Lib.hid ?_
                  go_wp2_with (at_builtin; refine wp_celsO rfl (.tmp 69) (.tmp 70) rfl (W0 := w1) ho3 _ all (outL x) rfl hown3 _ _ rfl hw3 hlen ?_; intro v8 w8 n8 o8; refine Hid.out ?_)
                  have hc8 : w8.cell? ⟨bb, off + k, none⟩ = some (.string (B x)) := by
                    obtain ⟨-, b9, off9, e9, h9⟩ := (hS1.old o8).2 k x (by rw [List.getElem?_eq_getElem hlt, HXE.out])
                    injection e9 with e9
                    injection e9 with e10 e11
                    subst e10 e11
                    exact h9
                  refine Lib.hid ?_
                  go_wp2
                  go_roundw
                  case rel => exact ⟨k + 1, b, all ++ outL x, by omega, by go_num, by rw [HS.out]; exact congrArg Value.string (by simp only [add_B, List.append_assoc]), rfl, n8, o8, by rw [List.length_append, l1]; simp; omega, Lib.hid ⟨HN.out, HL.out⟩⟩
                  case measure => simp [intOf]; omega
      · obtain rfl : k = L.length := by omega
        have HF := HK.out
        have hsl : (joinL (L.take L.length)).length ≤ 4000 := by have := HF.2.1; omega
        have C := cells_any (joinL (L.take L.length)) wr (ht1.old ho) (by omega)
        rcases Nat.eq_zero_or_pos b with rfl | hb
        · have HO := Lib.hid (HF.1.out0 HF.2.2 hsl)
          clear HF HK
          generalize joinL (L.take L.length) = S at *
          go_wp2_with (go_at_call 9; refine C.mono ?_; rintro e w3 ⟨v3, rfl, hw3, o3⟩; refine Hid.out ?_)
          obtain ⟨x1, x2, x3⟩ := HO.out
          rw [x1] at hw3
          rw [x2, x3]
          have R := rsame_at v3 u4 all w3 hw3.cels (hown.old o3).cels (by omega)
          obtain ⟨A3, n3, cap3, rfl⟩ := hw3.form
          obtain ⟨A4, n4, cap4, rfl⟩ := hown.form
          refine Lib.hid ?_
          go_wp2_with (go_at_call 11; refine R.mono ?_; rintro e w4 ⟨rfl, o4⟩)
          go_ret
          exact ⟨rfl, ((o1.tr ho).tr o3).tr o4⟩
        · have HO := Lib.hid (HF.1.out1 hb HF.2.2 hsl)
          have hbI : (0 : Int) < (b : Int) := by omega
          clear HF HK
          generalize joinL (L.take L.length) = S at *
          go_wp2_with (go_at_call 9; refine C.mono ?_; rintro e w3 ⟨v3, rfl, hw3, o3⟩; refine Hid.out ?_)
          obtain ⟨x1, x2, x3⟩ := HO.out
          rw [x1] at hw3
          rw [x2, x3]
          obtain ⟨A3, cap3, rfl⟩ := hw3.form2
          refine Lib.hid ?_
          go_wp2
          go_ret
          exact ⟨rfl, (o1.tr ho).tr o3⟩

set_option maxRecDepth 100000 in
theorem parseLines_contract (H : Type) (enc : TypeId × Value → H) (W : World) (base : Nat) (args : Array Value) (ds gs : List (DataW H)) (before : List MemPlace)
    (hval0 : ∀ (j : Nat) t v, Tryd.f6.params[j]? = some t → args[j]? = some v → Value.okWide Tryd.prog W .any base t v)
    (hW : DataW.Whole enc Tryd.prog Tryd.f6.params.toList Rows.parseLinesSpec.vars false W args.toList ds gs before) (hL : laidMetH Tryd.prog Rows.parseLinesRow.laid W) (sh : W.ShapedOpen Tryd.prog) :
    Calls Tryd.prog 6 args W fun e W' => ∃ v, e = .returned v ∧ Rows.parseLinesSpec.post enc Tryd.prog Tryd.f6 false true false false W args v W' := by
  have ht : Env W := envP hL sh
  have hval : ∀ (j : Nat) t v, Tryd.f6.params[j]? = some t → args[j]? = some v → Value.okWide Tryd.prog W .any base t v := hval0
  have hW' := hW
  obtain ⟨p, q, hA0, hV, rfl, hfz, hnd⟩ := hW
  have hA : DataW.TrodAll enc Tryd.prog W 0 (fun _ => true) true Tryd.f6.params.toList args.toList ds p := hA0
  rw [Tryd.params6] at hA hval
  obtain ⟨v0, d0, rfl, rfl, h0⟩ := trodAll_one hA
  obtain ⟨rfl, rfl⟩ := trodVars_none hV
  have hlt : ∀ x ∈ p, x.block < W.heap.size := fun x hx => hW'.lt x (by simpa using hx)
  have k0 := h0
  obtain ⟨a0, A0, c0, rfl, o0, m0⟩ := open_strs (hval 0 38 v0 rfl rfl) h0 (fun x hx => hlt x (by simp [hx]))
  clear hA0 hval0
  refine (law_lines a0 A0 c0 W o0 ht).mono fun e W' ⟨he, hb⟩ => ?_
  subst he
  refine ⟨_, rfl, _, _, _, [], p, [], hW', trodAll_mk1 (shut_bool Tryd.underlying4 _), ?_, rfl, hb.frame _, fun h => by cases h⟩
  have r0 := Below.trod Tryd.laidOut (by kernel_rfl) (of_decide_eq_true (by kernel_rfl)) k0 hb (fun x hx => hlt x (by simp [hx]))
  exact trodAll_mk1 r0

set_option maxRecDepth 100000 in
theorem parseLines_met (os : Os) : laidMet Tryd.prog Rows.parseLinesRow.laid ((laidWorld os).forCall (fun _ _ => 0) ⟨#[], #[.slice none 0 0], []⟩).memory :=
  laidMet_of_run3 8 (by kernel_rfl) (by kernel_rfl) (by kernel_rfl)
set_option maxRecDepth 100000 in
theorem parseLines_reads (os : Os) {H : Type} (enc : TypeId × Value → H) : ∃ places, DataW.whole enc Tryd.prog ((laidWorld os).forCall (fun _ _ => 0) ⟨#[], #[.slice none 0 0], []⟩).memory Tryd.f6.params.toList Rows.parseLinesSpec.vars false (#[.slice none 0 0] : Array Value).toList 8 = some ([.nil], [], places) :=
  ⟨[], by kernel_rfl⟩

set_option maxRecDepth 100000 in
theorem parseLines_lifted (os : Os) (started : os.Started) (H : Type) (enc : TypeId × Value → H) (F : Stop.Interp) :
    ReturnsInHanded {} Tryd.checked os 6 .any ((OpenSpec.ofChange Rows.parseLinesSpec).preRow enc Tryd.prog Tryd.f6 Rows.parseLinesRow.domain false Rows.parseLinesRow.laid) (((OpenSpec.ofChange Rows.parseLinesSpec).at F).post enc Tryd.prog Tryd.f6 false true false false) := by
  obtain ⟨places, hx⟩ := parseLines_reads os enc
  refine returnsInHanded_of_row (C := Tryd.checked) (s := OpenSpec.ofChange Rows.parseLinesSpec) Tryd.own started (by kernel_rfl) Tryd.func6
    (witness_row_at (enc := enc) (C := Tryd.checked) false (laidWorld os) #[.slice none 0 0] rfl (by kernel_rfl) (by kernel_rfl) (by kernel_rfl)
      (OpenSpec.preRow_of_cond 8 hx (by kernel_rfl) (fun k hk => by cases hk) (by kernel_rfl) (parseLines_met os))) ?_
  intro W base args ds gs before hval hW _ _ _ hL sh _
  exact parseLines_contract H enc W base args ds gs before hval hW hL sh

set_option maxRecDepth 100000 in
theorem parseLines_said : Rows.ParseLinesSaid :=
  OpenClaim.holds_of_cond 6 Tryd.f6 rfl rfl rfl rfl rfl rfl rfl ⟨rfl, rfl, rfl, rfl, rfl⟩ rfl rfl rfl rfl rfl (by kernel_rfl) Tryd.func6 (by kernel_rfl)
    (of_decide_eq_true (by kernel_rfl)) (by unfold Func.isWrapper; first | (rw [if_pos (by decide +kernel)]; kernel_rfl) | (rw [if_neg (by decide +kernel)]; exact ⟨rfl, rfl⟩))
    (fun os started H enc _ F => by rw [OpenClaim.pre_eq_preRow]; exact parseLines_lifted os started H enc F)

set_option maxRecDepth 100000 in
theorem parseLines_plain (f : FuncId) (fn : Func) (hf : Tryd.pinned.checked.prog.funcNamed Rows.parseLinesRow.func = some f) (hfn : Tryd.pinned.checked.prog.funcs[f]? = some fn) :
    true = Tryd.pinned.checked.prog.looks [] ∧ ∀ (j : Nat) t, fn.params[j]? = some t → Tryd.pinned.checked.prog.wantsStandIn t = false := by
  obtain rfl : f = 6 := Option.some.inj ((show Tryd.prog.funcNamed Rows.parseLinesRow.func = some 6 by kernel_rfl).symm.trans hf) |>.symm
  obtain rfl : fn = Tryd.f6 := (Option.some.inj (Tryd.func6.symm.trans hfn)).symm
  refine ⟨by kernel_rfl, fun j t ht => ?_⟩
  rw [Tryd.params6] at ht
  have hm := Array.mem_of_getElem? ht
  simp only [List.mem_toArray, List.mem_cons, List.not_mem_nil, or_false] at hm
  subst hm
  exact (show Tryd.prog.wantsStandIn 38 = false by kernel_rfl)

set_option maxRecDepth 100000 in
theorem parseLines_card : Rows.ParseLinesCardSaid :=
  Claim7.holds_tied_plain_at .later [] _ _ _ _ parseLines_said (fun _ h => by cases h) (by kernel_rfl) (fun _ h => by cases h) parseLines_row_tie rfl ⟨rfl, rfl⟩ (by kernel_rfl) rfl parseLines_plain (by kernel_rfl)
#print axioms parseLines_card
end Go.Proofs.YtacniohflhpgaaaDoor
