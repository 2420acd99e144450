/-
  ParseCells: whatever text comes in, the law answers true, and leaves all as it was. Conditions: the program's variables hold what its text lays.
-/
import Derived.Test.YtacniohflhpgaaaDoorPCrc
import Derived.Test.YtacniohflhpgaaaDoorPRcl
import Derived.Test.YtacniohflhpgaaaDoorPLft
namespace Go.Proofs.YtacniohflhpgaaaDoor
open Go.ChangeShapes Go.WideShapes Go.ChangeAt Go.RowKit Go.Joins Go.Deep

abbrev tabName : String := Rows.parseCellsRow.named.getD 8 ""
theorem gTab : Tryd.prog.globalNamed tabName = some 0 := by kernel_rfl
theorem gTabType : (Tryd.prog.globals[0]?).map (·.type) = some 84 := by kernel_rfl
theorem cellsTab : Tryd.prog.cellsOf 84 = 16 := by kernel_rfl
theorem cellsU32 : Tryd.prog.cellsOf 29 = 1 := by kernel_rfl
abbrev tabI : List Int := [0, 498536548, 997073096, 651767980, 1994146192, 1802195444, 1303535960, 1342533948, 3988292384, 4027552580, 3604390888, 3412177804, 2607071920, 2262029012, 2685067896, 3183342108]
set_option maxRecDepth 100000 in
theorem tabC {W : World} (h : laidMetH Tryd.prog Rows.parseCellsRow.laid W) : Tab W := by
  have h0 : laidMet Tryd.prog Rows.parseCellsRow.laid W := h
  have h4 := laidMet.tail (laidMet.tail (laidMet.tail (laidMet.tail h0)))
  have h1 : Lib.TabIs Tryd.prog W tabName .u32 tabI :=
    Lib.tabIs_of_head (rest := Rows.parseCellsRow.laid.drop 5) gTab gTabType Tryd.underlying84 Tryd.underlying29 cellsU32 cellsTab h4
  have h2 : ∀ i, i < 16 → W.cell? ⟨0, i, none⟩ = some (.int .u32 (tab.getD i 0 : Nat)) := by
    intro i hi
    have h3 := h1.cell gTab i hi
    rw [h3]
    have : ∀ i, i < 16 → tabI.getD i 0 = ((tab.getD i 0 : Nat) : Int) := by decide
    rw [this i hi]
  refine ⟨?_, h2⟩
  by_cases hz : 0 < W.heap.size
  · exact hz
  · have h0 := h2 0 (by omega)
    exfalso
    have hn : W.heap[0]? = none := by
      rw [Array.getElem?_eq_none]; omega
    simp [World.cell?, hn] at h0

theorem scan_len (L : List (List UInt8)) : ∀ k l, scan k L = .ok l → l.length ≤ L.length := by
  induction L with
  | nil => intro k l h; simp [scan] at h; subst h; simp
  | cons x L ih =>
    intro k l h
    rw [scan] at h
    split at h
    · have := ih _ _ h; simp; omega
    · split at h
      · cases h
      · cases hs : scan (k + 1) L with
        | error e => rw [hs] at h; cases h
        | ok l' =>
          rw [hs] at h
          simp only [Except.map] at h
          injection h with h
          subst h
          have := ih _ _ hs
          simp; omega
theorem outL_len (s : List UInt8) : (outL s).length ≤ 4001 := by
  unfold outL
  split
  · simp
  · cases hs : scan 0 (spl 10 s) with
    | error e => simp [resL]
    | ok l =>
      have h1 := scan_len _ _ _ hs
      have h2 := splA_len 10 s []
      unfold spl at h1
      show l.length ≤ 4001
      omega

set_option maxRecDepth 10000 in
set_option maxHeartbeats 4000000 in
theorem law_cells (s : List UInt8) (w : World) (ht : Env w) (hT : Tab w) :
    Calls Tryd.prog 3 #[.string (B s)] w fun e w' => e = .returned (.bool true) ∧ Old w w' := by
  have D := shown_any w ht
  by_cases hbig : 4500 < s.length
  · have hI : (4500 : Int) < (s.length : Int) := by omega
    go_enter Tryd.func3, Tryd.ntmps3
    go_wp2_with (go_at_call 8; refine D.mono ?_; rintro e w4 ⟨rfl, o5⟩)
    go_ret
    exact ⟨rfl, o5⟩
  · have hI : (s.length : Int) ≤ 4500 := by omega
    go_enter Tryd.func3, Tryd.ntmps3
    go_wp2_with (go_at_call 8; refine D.mono ?_; rintro e w1 ⟨rfl, o1⟩; refine Hid.out ?_)
    have C := cells_any s w1 (ht.old o1) (by omega)
    refine Lib.hid ?_
    go_wp2_with (go_at_call 9; refine C.mono ?_; rintro e w2 ⟨v2, rfl, h2, o2⟩; refine Hid.out ?_)
    have E := rcells_any s w2 (by omega)
    obtain ⟨A2, n2, cap2, rfl⟩ := h2.form
    refine Lib.hid ?_
    go_wp2_with (go_at_call 10; refine E.mono ?_; rintro e w3 ⟨v3, rfl, h3, o3⟩; refine Hid.out ?_)
    obtain ⟨A3, n3, cap3, rfl⟩ := h3.form
    have R := rsame_at _ _ (outL s) w3 (h2.old o3).cels h3.cels (by have := outL_len s; omega)
    have hW := fun W => word_any s W (by omega)
    have hV := fun W => rword_any s W (by omega)
    have hS := fun W h => psum_any s (by omega) W h
    have hU := fun W => rpsum_any s (by omega) W
    have o4 := (o1.tr o2).tr o3
    generalize wordB s = bw at *
    generalize sumL s = sm at *
    generalize outN s = N at *
    generalize outE s = E' at *
    refine Lib.hid ?_
    go_wp2_with (first
      | (go_at_call 11; refine R.mono ?_; rintro e w4 ⟨rfl, o5⟩)
      | (go_at_call 12; refine (hW _).mono ?_; rintro e w5 ⟨rfl, rfl⟩)
      | (go_at_call 13; refine (hV _).mono ?_; rintro e w6 ⟨rfl, rfl⟩)
      | (go_at_call 14; refine (hS _ (hT.old (o4.tr o5))).mono ?_; rintro e w7 ⟨rfl, rfl⟩)
      | (go_at_call 15; refine (hU _).mono ?_; rintro e w8 ⟨rfl, rfl⟩))
    go_ret
    exact ⟨by simp, o4.tr o5⟩

set_option maxRecDepth 100000 in
theorem parseCells_contract (H : Type) (enc : TypeId × Value → H) (W : World) (base : Nat) (args : Array Value) (ds gs : List (DataW H)) (before : List MemPlace)
    (hval0 : ∀ (j : Nat) t v, Tryd.f3.params[j]? = some t → args[j]? = some v → Value.okWide Tryd.prog W .any base t v)
    (hW : DataW.Whole enc Tryd.prog Tryd.f3.params.toList Rows.parseCellsSpec.vars false W args.toList ds gs before) (hL : laidMetH Tryd.prog Rows.parseCellsRow.laid W) (sh : W.ShapedOpen Tryd.prog) :
    Calls Tryd.prog 3 args W fun e W' => ∃ v, e = .returned v ∧ Rows.parseCellsSpec.post enc Tryd.prog Tryd.f3 false true false false W args v W' := by
  have ht : Env W := envC hL sh
  have hval : ∀ (j : Nat) t v, Tryd.f3.params[j]? = some t → args[j]? = some v → Value.okWide Tryd.prog W .any base t v := hval0
  have hW' := hW
  obtain ⟨p, q, hA0, hV, rfl, hfz, hnd⟩ := hW
  have hA : DataW.TrodAll enc Tryd.prog W 0 (fun _ => true) true Tryd.f3.params.toList args.toList ds p := hA0
  rw [Tryd.params3] at hA hval
  obtain ⟨v0, d0, rfl, rfl, h0⟩ := trodAll_one hA
  obtain ⟨rfl, rfl⟩ := trodVars_none hV
  have hlt : ∀ x ∈ p, x.block < W.heap.size := fun x hx => hW'.lt x (by simpa using hx)
  have k0 := h0
  obtain ⟨a0, rfl, o0⟩ := open_str (hval 0 9 v0 rfl rfl) h0
  clear hA0 hval0
  refine (law_cells a0 W ht (tabC hL)).mono fun e W' ⟨he, hb⟩ => ?_
  subst he
  refine ⟨_, rfl, _, _, _, [], p, [], hW', trodAll_mk1 (shut_bool Tryd.underlying4 _), ?_, rfl, hb.frame _, fun h => by cases h⟩
  have r0 := Below.trod Tryd.laidOut (by kernel_rfl) (of_decide_eq_true (by kernel_rfl)) k0 hb (fun x hx => hlt x (by simp [hx]))
  exact trodAll_mk1 r0

set_option maxRecDepth 100000 in
theorem parseCells_met (os : Os) : laidMet Tryd.prog Rows.parseCellsRow.laid ((laidWorld os).forCall (fun _ _ => 0) ⟨#[], #[.string ByteArray.empty], []⟩).memory :=
  laidMet_of_run3 8 (by kernel_rfl) (by kernel_rfl) (by kernel_rfl)
set_option maxRecDepth 100000 in
theorem parseCells_reads (os : Os) {H : Type} (enc : TypeId × Value → H) : ∃ places, DataW.whole enc Tryd.prog ((laidWorld os).forCall (fun _ _ => 0) ⟨#[], #[.string ByteArray.empty], []⟩).memory Tryd.f3.params.toList Rows.parseCellsSpec.vars false (#[.string ByteArray.empty] : Array Value).toList 8 = some ([.lit (.string [])], [], places) :=
  ⟨[], by kernel_rfl⟩

set_option maxRecDepth 100000 in
theorem parseCells_lifted (os : Os) (started : os.Started) (H : Type) (enc : TypeId × Value → H) (F : Stop.Interp) :
    ReturnsInHanded {} Tryd.checked os 3 .any ((OpenSpec.ofChange Rows.parseCellsSpec).preRow enc Tryd.prog Tryd.f3 Rows.parseCellsRow.domain false Rows.parseCellsRow.laid) (((OpenSpec.ofChange Rows.parseCellsSpec).at F).post enc Tryd.prog Tryd.f3 false true false false) := by
  obtain ⟨places, hx⟩ := parseCells_reads os enc
  refine returnsInHanded_of_row (C := Tryd.checked) (s := OpenSpec.ofChange Rows.parseCellsSpec) Tryd.own started (by kernel_rfl) Tryd.func3
    (witness_row_at (enc := enc) (C := Tryd.checked) false (laidWorld os) #[.string ByteArray.empty] rfl (by kernel_rfl) (by kernel_rfl) (by kernel_rfl)
      (OpenSpec.preRow_of_cond 8 hx (by kernel_rfl) (fun k hk => by cases hk) (by kernel_rfl) (parseCells_met os))) ?_
  intro W base args ds gs before hval hW _ _ _ hL sh _
  exact parseCells_contract H enc W base args ds gs before hval hW hL sh

set_option maxRecDepth 100000 in
theorem parseCells_said : Rows.ParseCellsSaid :=
  OpenClaim.holds_of_cond 3 Tryd.f3 rfl rfl rfl rfl rfl rfl rfl ⟨rfl, rfl, rfl, rfl, rfl⟩ rfl rfl rfl rfl rfl (by kernel_rfl) Tryd.func3 (by kernel_rfl)
    (of_decide_eq_true (by kernel_rfl)) (by unfold Func.isWrapper; first | (rw [if_pos (by decide +kernel)]; kernel_rfl) | (rw [if_neg (by decide +kernel)]; exact ⟨rfl, rfl⟩))
    (fun os started H enc _ F => by rw [OpenClaim.pre_eq_preRow]; exact parseCells_lifted os started H enc F)

set_option maxRecDepth 100000 in
theorem parseCells_plain (f : FuncId) (fn : Func) (hf : Tryd.pinned.checked.prog.funcNamed Rows.parseCellsRow.func = some f) (hfn : Tryd.pinned.checked.prog.funcs[f]? = some fn) :
    true = Tryd.pinned.checked.prog.looks [] ∧ ∀ (j : Nat) t, fn.params[j]? = some t → Tryd.pinned.checked.prog.wantsStandIn t = false := by
  obtain rfl : f = 3 := Option.some.inj ((show Tryd.prog.funcNamed Rows.parseCellsRow.func = some 3 by kernel_rfl).symm.trans hf) |>.symm
  obtain rfl : fn = Tryd.f3 := (Option.some.inj (Tryd.func3.symm.trans hfn)).symm
  refine ⟨by kernel_rfl, fun j t ht => ?_⟩
  rw [Tryd.params3] at ht
  have hm := Array.mem_of_getElem? ht
  simp only [List.mem_toArray, List.mem_cons, List.not_mem_nil, or_false] at hm
  subst hm
  exact (show Tryd.prog.wantsStandIn 9 = false by kernel_rfl)

set_option maxRecDepth 100000 in
theorem parseCells_card : Rows.ParseCellsCardSaid :=
  Claim7.holds_tied_plain_at .later [] _ _ _ _ parseCells_said (fun _ h => by cases h) (by kernel_rfl) (fun _ h => by cases h) parseCells_row_tie rfl ⟨rfl, rfl⟩ (by kernel_rfl) rfl parseCells_plain (by kernel_rfl)
#print axioms parseCells_card
end Go.Proofs.YtacniohflhpgaaaDoor
