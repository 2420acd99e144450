/-
  ParsePrints: whatever cells come in, the law answers true, and leaves all as it was. Conditions: the program's variables hold what its text lays.
-/
import Derived.Test.YtacniohflhpgaaaDoorPLin
import Derived.Test.YtacniohflhpgaaaDoorPRpr
import Derived.Test.YtacniohflhpgaaaDoorPLft
namespace Go.Proofs.YtacniohflhpgaaaDoor
open Go.ChangeShapes Go.WideShapes Go.ChangeAt Go.RowKit Go.Joins Go.Deep

theorem print_join (l : List Cel) : printL l = joinL (l.map bodyL) := by
  induction l with
  | nil => rfl
  | cons c l ih =>
    rw [List.map_cons, joinL_cons, ← ih]
    simp [printL, lineL]
theorem scan_bodies (l : List Cel) (h : l.all toldB = true) : ∀ k, scan k (l.map bodyL ++ [[]]) = .ok l := by
  induction l with
  | nil => intro k; rfl
  | cons c l ih =>
    intro k
    rw [List.all_cons, Bool.and_eq_true] at h
    obtain ⟨h1, h2, -⟩ := body_line c h.1
    rw [List.map_cons, List.cons_append, scan_some _ _ _ c h2 h1, ih h.2]
    rfl
theorem print_out (l : List Cel) (h : l.all toldB = true) (hl : (printL l).length ≤ 4000) : outL (printL l) = l ∧ outN (printL l) = 0 ∧ outE (printL l) = 0 := by
  refine out_of hl ?_
  rw [print_join]
  have := spl_join (l.map bodyL) [] (fun x hx => by
    obtain ⟨c, hc, rfl⟩ := List.mem_map.1 hx
    exact (body_line c (List.all_eq_true.1 h c hc)).2.2) (by simp)
  rw [List.append_nil] at this
  rw [this]
  exact scan_bodies l h 0
def big (c : Cel) : Prop := 100 < c.row.length ∨ 100 < c.col.length ∨ 200 < c.val.length

set_option maxRecDepth 10000 in
set_option maxHeartbeats 8000000 in
theorem law_prints (v : Value) (l : List Cel) (w : World) (hC : CelC w v l) (hok : ∀ c ∈ l, c.ok) (ht : Env w) :
    Calls Tryd.prog 4 #[v] w fun e w' => e = .returned (.bool true) ∧ Old w w' := by
  have hcels := hC.cels
  obtain ⟨A, cap, rfl, hcap, hat⟩ := hC
  have D := shown_any w ht
  by_cases hbig : 20 < l.length
  · have hI : (20 : Int) < (l.length : Int) := by omega
    go_enter Tryd.func4, Tryd.ntmps4
    go_wp2_with (go_at_call 8; refine D.mono ?_; rintro e w4 ⟨rfl, o5⟩)
    go_ret
    exact ⟨rfl, o5⟩
  · have hI : (l.length : Int) ≤ 20 := by omega
    go_enter Tryd.func4, Tryd.ntmps4
    go_wp2_with (go_at_call 8; refine D.mono ?_; rintro e w1 ⟨rfl, o1⟩; refine Hid.out ?_)
    have ht1 := ht.old o1
    have hcels1 := hcels.old o1
    clear D
    refine Lib.hid ?_
    go_wp2_with fail
    go_loop [3] (fun i => ∃ k : Nat, k ≤ l.length ∧ i = .int .i64 k ∧ Hid (∀ c ∈ l.take k, ¬ big c)) (fun i => l.length - (intOf i).toNat)
    case atStart => exact ⟨0, Nat.zero_le _, rfl, Lib.hid (by simp)⟩
    case round =>
      obtain ⟨k, hk, rfl, HK⟩ := hrel
      by_cases hlt : k < l.length
      · obtain ⟨b, off, rfl, hCA⟩ := hat (by intro e; rw [e] at hlt; simp at hlt)
        obtain ⟨a0, a1, a2, a3, a4, a5⟩ := ((hCA.at_ k hlt).old o1).held
        have HT := Lib.hid (List.take_succ_eq_append_getElem hlt)
        have hkI : (k : Int) < (l.length : Int) := by omega
        generalize l[k] = c at *
        have E := shown_any w1 ht1
        by_cases hb : big c
        · by_cases c1 : 100 < c.row.length
          · have i1 : (100 : Int) < (c.row.length : Int) := by omega
            go_wp2_with (go_at_call 8; refine E.mono ?_; rintro e w4 ⟨rfl, o5⟩)
            go_ret
            exact ⟨rfl, o1.tr o5⟩
          · have i1 : (c.row.length : Int) ≤ 100 := by omega
            by_cases c2 : 100 < c.col.length
            · have i2 : (100 : Int) < (c.col.length : Int) := by omega
              go_wp2_with (go_at_call 8; refine E.mono ?_; rintro e w4 ⟨rfl, o5⟩)
              go_ret
              exact ⟨rfl, o1.tr o5⟩
            · have i2 : (c.col.length : Int) ≤ 100 := by omega
              have i3 : (200 : Int) < (c.val.length : Int) := by unfold big at hb; omega
              go_wp2_with (go_at_call 8; refine E.mono ?_; rintro e w4 ⟨rfl, o5⟩)
              go_ret
              exact ⟨rfl, o1.tr o5⟩
        · have i1 : (c.row.length : Int) ≤ 100 := by unfold big at hb; omega
          have i2 : (c.col.length : Int) ≤ 100 := by unfold big at hb; omega
          have i3 : (c.val.length : Int) ≤ 200 := by unfold big at hb; omega
          have HK2 := Lib.hid (show ∀ d ∈ l.take (k + 1), ¬ big d by
            rw [HT.out]
            intro d hd
            rcases List.mem_append.1 hd with hd | hd
            · exact HK.out d hd
            · rw [List.mem_singleton.1 hd]; exact hb)
          clear hb
          go_wp2
          go_round
          case rel => exact ⟨k + 1, by omega, by go_num, HK2⟩
          case measure => simp [intOf]; omega
      · obtain rfl : k = l.length := by omega
        have hsm : ∀ c ∈ l, c.sm := by
          intro c hc
          have h1 := HK.out c (by rw [List.take_length]; exact hc)
          have h2 := hok c hc
          unfold big at h1
          exact ⟨h2.1, by omega, by omega, by omega⟩
        have hPL := print_len l hsm
        have C := print_any _ l w1 ht1 hcels1 (by omega) hsm
        go_wp2_with (go_at_call 16; refine C.mono ?_; rintro e w2 ⟨rfl, o2⟩; refine Hid.out ?_)
        have R := rprint_any _ l w2 (hcels1.old o2) (by omega) hsm
        refine Lib.hid ?_
        go_wp2_with (go_at_call 17; refine R.mono ?_; rintro e w3 ⟨rfl, o3⟩; refine Hid.out ?_)
        have o4 := (o1.tr o2).tr o3
        cases hall : l.all toldB with
        | false =>
          have e1 : printS l = [] := by unfold printS; rw [hall]; rfl
          have e2 : printE l = 1 := by unfold printE; rw [hall]; rfl
          rw [e1, e2]
          refine Lib.hid ?_
          go_wp2
          go_ret
          exact ⟨rfl, o4⟩
        | true =>
          have e1 : printS l = printL l := by unfold printS; rw [hall]; rfl
          have e2 : printE l = 0 := by unfold printE; rw [hall]; rfl
          rw [e1, e2]
          have HO := Lib.hid (fun h => print_out l hall h)
          have HW := Lib.hid (fun (h : 4000 < (printL l).length) => (show outE (printL l) = 71 from if_pos h))
          have F := cells_any (printL l) w3 (ht.old o4) (by omega)
          generalize printL l = P at *
          refine Lib.hid ?_
          go_wp2_with (go_at_call 9; refine F.mono ?_; rintro e w5 ⟨v5, rfl, h5, o5⟩; refine Hid.out ?_)
          by_cases hwide : 4000 < P.length
          · have hwI : (4000 : Int) < (P.length : Int) := by omega
            rw [HW.out hwide]
            obtain ⟨A5, n5, cap5, rfl⟩ := h5.form
            refine Lib.hid ?_
            go_wp2
            go_ret
            exact ⟨rfl, o4.tr o5⟩
          · have hwI : (P.length : Int) ≤ 4000 := by omega
            obtain ⟨x1, x2, x3⟩ := HO.out (by omega)
            rw [x1] at h5
            rw [x2, x3]
            have G := rsame_at v5 _ l w5 h5.cels ((hcels1.old o2).old (o3.tr o5)) (by omega)
            obtain ⟨A5, n5, cap5, rfl⟩ := h5.form
            refine Lib.hid ?_
            go_wp2_with (go_at_call 11; refine G.mono ?_; rintro e w6 ⟨rfl, o6⟩)
            go_ret
            exact ⟨rfl, (o4.tr o5).tr o6⟩

set_option maxRecDepth 100000 in
theorem parsePrints_contract (H : Type) (enc : TypeId × Value → H) (W : World) (base : Nat) (args : Array Value) (ds gs : List (DataW H)) (before : List MemPlace)
    (hval0 : ∀ (j : Nat) t v, Tryd.f4.params[j]? = some t → args[j]? = some v → Value.okWide Tryd.prog W .any base t v)
    (hW : DataW.Whole enc Tryd.prog Tryd.f4.params.toList Rows.parsePrintsSpec.vars false W args.toList ds gs before) (hL : laidMetH Tryd.prog Rows.parsePrintsRow.laid W) (sh : W.ShapedOpen Tryd.prog) :
    Calls Tryd.prog 4 args W fun e W' => ∃ v, e = .returned v ∧ Rows.parsePrintsSpec.post enc Tryd.prog Tryd.f4 false true false false W args v W' := by
  have ht : Env W := envP hL sh
  have hval : ∀ (j : Nat) t v, Tryd.f4.params[j]? = some t → args[j]? = some v → Value.okWide Tryd.prog W .any base t v := hval0
  have hW' := hW
  obtain ⟨p, q, hA0, hV, rfl, hfz, hnd⟩ := hW
  have hA : DataW.TrodAll enc Tryd.prog W 0 (fun _ => true) true Tryd.f4.params.toList args.toList ds p := hA0
  rw [Tryd.params4] at hA hval
  obtain ⟨v0, d0, rfl, rfl, h0⟩ := trodAll_one hA
  obtain ⟨rfl, rfl⟩ := trodVars_none hV
  have hlt : ∀ x ∈ p, x.block < W.heap.size := fun x hx => hW'.lt x (by simpa using hx)
  have k0 := h0
  obtain ⟨a0, o0, q0, m0, x0⟩ := open_cels (hval 0 23 v0 rfl rfl) h0 (fun x hx => hlt x (by simp [hx]))
  clear hA0 hval0
  refine (law_prints v0 a0 W (o0.room x0) q0 ht).mono fun e W' ⟨he, hb⟩ => ?_
  subst he
  refine ⟨_, rfl, _, _, _, [], p, [], hW', trodAll_mk1 (shut_bool Tryd.underlying4 _), ?_, rfl, hb.frame _, fun h => by cases h⟩
  have r0 := Below.trod Tryd.laidOut (by kernel_rfl) (of_decide_eq_true (by kernel_rfl)) k0 hb (fun x hx => hlt x (by simp [hx]))
  exact trodAll_mk1 r0

set_option maxRecDepth 100000 in
theorem parsePrints_met (os : Os) : laidMet Tryd.prog Rows.parsePrintsRow.laid ((laidWorld os).forCall (fun _ _ => 0) ⟨#[], #[.slice none 0 0], []⟩).memory :=
  laidMet_of_run3 8 (by kernel_rfl) (by kernel_rfl) (by kernel_rfl)
set_option maxRecDepth 100000 in
theorem parsePrints_reads (os : Os) {H : Type} (enc : TypeId × Value → H) : ∃ places, DataW.whole enc Tryd.prog ((laidWorld os).forCall (fun _ _ => 0) ⟨#[], #[.slice none 0 0], []⟩).memory Tryd.f4.params.toList Rows.parsePrintsSpec.vars false (#[.slice none 0 0] : Array Value).toList 8 = some ([.nil], [], places) :=
  ⟨[], by kernel_rfl⟩

set_option maxRecDepth 100000 in
theorem parsePrints_lifted (os : Os) (started : os.Started) (H : Type) (enc : TypeId × Value → H) (F : Stop.Interp) :
    ReturnsInHanded {} Tryd.checked os 4 .any ((OpenSpec.ofChange Rows.parsePrintsSpec).preRow enc Tryd.prog Tryd.f4 Rows.parsePrintsRow.domain false Rows.parsePrintsRow.laid) (((OpenSpec.ofChange Rows.parsePrintsSpec).at F).post enc Tryd.prog Tryd.f4 false true false false) := by
  obtain ⟨places, hx⟩ := parsePrints_reads os enc
  refine returnsInHanded_of_row (C := Tryd.checked) (s := OpenSpec.ofChange Rows.parsePrintsSpec) Tryd.own started (by kernel_rfl) Tryd.func4
    (witness_row_at (enc := enc) (C := Tryd.checked) false (laidWorld os) #[.slice none 0 0] rfl (by kernel_rfl) (by kernel_rfl) (by kernel_rfl)
      (OpenSpec.preRow_of_cond 8 hx (by kernel_rfl) (fun k hk => by cases hk) (by kernel_rfl) (parsePrints_met os))) ?_
  intro W base args ds gs before hval hW _ _ _ hL sh _
  exact parsePrints_contract H enc W base args ds gs before hval hW hL sh

set_option maxRecDepth 100000 in
theorem parsePrints_said : Rows.ParsePrintsSaid :=
  OpenClaim.holds_of_cond 4 Tryd.f4 rfl rfl rfl rfl rfl rfl rfl ⟨rfl, rfl, rfl, rfl, rfl⟩ rfl rfl rfl rfl rfl (by kernel_rfl) Tryd.func4 (by kernel_rfl)
    (of_decide_eq_true (by kernel_rfl)) (by unfold Func.isWrapper; first | (rw [if_pos (by decide +kernel)]; kernel_rfl) | (rw [if_neg (by decide +kernel)]; exact ⟨rfl, rfl⟩))
    (fun os started H enc _ F => by rw [OpenClaim.pre_eq_preRow]; exact parsePrints_lifted os started H enc F)

set_option maxRecDepth 100000 in
theorem parsePrints_plain (f : FuncId) (fn : Func) (hf : Tryd.pinned.checked.prog.funcNamed Rows.parsePrintsRow.func = some f) (hfn : Tryd.pinned.checked.prog.funcs[f]? = some fn) :
    true = Tryd.pinned.checked.prog.looks [] ∧ ∀ (j : Nat) t, fn.params[j]? = some t → Tryd.pinned.checked.prog.wantsStandIn t = false := by
  obtain rfl : f = 4 := Option.some.inj ((show Tryd.prog.funcNamed Rows.parsePrintsRow.func = some 4 by kernel_rfl).symm.trans hf) |>.symm
  obtain rfl : fn = Tryd.f4 := (Option.some.inj (Tryd.func4.symm.trans hfn)).symm
  refine ⟨by kernel_rfl, fun j t ht => ?_⟩
  rw [Tryd.params4] at ht
  have hm := Array.mem_of_getElem? ht
  simp only [List.mem_toArray, List.mem_cons, List.not_mem_nil, or_false] at hm
  subst hm
  exact (show Tryd.prog.wantsStandIn 23 = false by kernel_rfl)

set_option maxRecDepth 100000 in
theorem parsePrints_card : Rows.ParsePrintsCardSaid :=
  Claim7.holds_tied_plain_at .later [] _ _ _ _ parsePrints_said (fun _ h => by cases h) (by kernel_rfl) (fun _ h => by cases h) parsePrints_row_tie rfl ⟨rfl, rfl⟩ (by kernel_rfl) rfl parsePrints_plain (by kernel_rfl)
#print axioms parsePrints_card
end Go.Proofs.YtacniohflhpgaaaDoor
