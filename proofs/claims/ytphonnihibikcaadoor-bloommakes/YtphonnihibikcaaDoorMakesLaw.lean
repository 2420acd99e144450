/-
  BloomMakes: whatever comes in, the law answers true, and leaves all as it was. Condition: the table is laid as the program's text lays it.
-/
import Derived.Test.YtphonnihibikcaaDoorLift
import Derived.Test.YtphonnihibikcaaDoorRefMake
namespace Go.Proofs.YtphonnihibikcaaDoor
open Go.ChangeShapes Go.WideShapes Go.ChangeAt Go.RowKit Go.Joins Go.Deep

section
variable {H : Type} {enc : TypeId × Value → H} {P : Program} {w : World} {base : Nat} {spare : Nat → Bool} {held : Bool}
theorem trodAll_five {t t' t'' t3 t4 : TypeId} {args : Array Value} {ds : List (DataW H)} {ps : List MemPlace} (h : DataW.TrodAll enc P w base spare held [t, t', t'', t3, t4] args.toList ds ps) :
    ∃ v v' v'' v3 v4 d d' d'' d3 d4 p p' p'' p3 p4, args = #[v, v', v'', v3, v4] ∧ ds = [d, d', d'', d3, d4] ∧ ps = p ++ (p' ++ (p'' ++ (p3 ++ p4))) ∧ DataW.Trod enc P w base spare held t v d p ∧ DataW.Trod enc P w base spare held t' v' d' p' ∧ DataW.Trod enc P w base spare held t'' v'' d'' p'' ∧ DataW.Trod enc P w base spare held t3 v3 d3 p3 ∧ DataW.Trod enc P w base spare held t4 v4 d4 p4 := by
  obtain ⟨v, vs, d, ds', p, q, hargs, rfl, rfl, hd, hrest⟩ := trodAll_cons h
  obtain ⟨v', vs', d', ds'', p', q', rfl, rfl, rfl, hd', hrest'⟩ := trodAll_cons hrest
  obtain ⟨v'', vs'', d'', ds''', p'', q'', rfl, rfl, rfl, hd'', hrest''⟩ := trodAll_cons hrest'
  obtain ⟨v3, vs3, d3, ds3, p3, q3, rfl, rfl, rfl, hd3, hrest3⟩ := trodAll_cons hrest''
  obtain ⟨v4, vs4, d4, ds4, p4, q4, rfl, rfl, rfl, hd4, hrest4⟩ := trodAll_cons hrest3
  obtain ⟨rfl, rfl, rfl⟩ := trodAll_nil hrest4
  exact ⟨v, v', v'', v3, v4, d, d', d'', d3, d4, p, p', p'', p3, p4, by cases args; simp_all, rfl, by simp, hd, hd', hd'', hd3, hd4⟩
theorem trodAll_mk5 {t t' t'' t3 t4 : TypeId} {v v' v'' v3 v4 : Value} {d d' d'' d3 d4 : DataW H} {p p' p'' p3 p4 : List MemPlace} (h : DataW.Trod enc P w base spare held t v d p) (h' : DataW.Trod enc P w base spare held t' v' d' p')
    (h'' : DataW.Trod enc P w base spare held t'' v'' d'' p'') (h3 : DataW.Trod enc P w base spare held t3 v3 d3 p3) (h4 : DataW.Trod enc P w base spare held t4 v4 d4 p4) : DataW.TrodAll enc P w base spare held [t, t', t'', t3, t4] [v, v', v'', v3, v4] [d, d', d'', d3, d4] (p ++ (p' ++ (p'' ++ (p3 ++ p4)))) := ⟨p, p' ++ (p'' ++ (p3 ++ p4)), h, trodAll_mk4 h' h'' h3 h4, rfl⟩
end

/-- Make answers the document's filter, or its error: the same of both. -/
theorem make_both (names : List (List UInt8)) (A : Option Addr) (cap : Nat) (b : Int) (hn : names.length ≤ 100) (hls : ∀ l ∈ names, l.length ≤ 200) : ∃ (s : List UInt8) (e : Int),
    (∀ w, Strs w A cap names → Tab w → Calls Tryd.prog 11 #[.slice A names.length cap, .int .i64 b] w fun r w' => r = .returned (.tuple #[.string (B s), .int .i64 e]) ∧ Old w w') ∧
    (∀ w, Strs w A cap names → Calls Tryd.prog 12 #[.slice A names.length cap, .int .i64 b] w fun r w' => r = .returned (.tuple #[.string (B s), .int .i64 e]) ∧ Old w w') := by
  by_cases hb : b < 1 ∨ 64 < b
  · refine ⟨[], 1, fun w _ _ => (make_arg _ b hb w).mono ?_, fun w _ => (rmake_arg _ b hb w).mono ?_⟩
    · rintro r w' ⟨rfl, rfl⟩; exact ⟨rfl, Old.re _⟩
    · rintro r w' ⟨rfl, rfl⟩; exact ⟨rfl, Old.re _⟩
  · obtain ⟨n, rfl⟩ := Int.eq_ofNat_of_zero_le (show 0 ≤ b by omega)
    have hls2 : ∀ l ∈ names, l.length ≤ 100000 := fun l hl => by have := hls l hl; omega
    exact ⟨makeL names n, 0, fun w hS ht => make_any names A cap n (by omega) (by omega) (by omega) hls2 w hS ht, fun w hS => rmake_any names A cap n (by omega) (by omega) (by omega) hls2 w hS⟩

set_option maxHeartbeats 4000000 in
theorem law_makes (names : List (List UInt8)) (A : Option Addr) (cap : Nat) (b : Int) (l f : List UInt8) (many : Nat) (hc : cap ≤ maxLen) (hl : l.length ≤ maxLen) (hf : f.length ≤ maxLen) (hmany : many < 65536) (w : World) (hS : Strs w A cap names) (h : Tab w) :
    Calls Tryd.prog 3 #[.slice A names.length cap, .int .i64 b, .string (B l), .string (B f), .int .u16 many] w fun e w' => e = .returned (.bool true) ∧ Old w w' := by
  have hf2 : f.length ≤ 9223372036854775807 := by unfold maxLen at hf; omega
  have hl2 : l.length ≤ 9223372036854775807 := by unfold maxLen at hl; omega
  have hbd := bounded_any names A cap w hS hc
  clear hf hl
  go_enter Tryd.func3, Tryd.ntmps3
  go_wp2_with fail
  refine hbd.mono ?_
  clear hbd
  rintro e w1 ⟨rfl, rfl⟩
  by_cases hok : boundL names = true ∧ l.length ≤ 200 ∧ f.length ≤ 300
  · obtain ⟨hb1, h2, h3⟩ := hok
    obtain ⟨hn, hls⟩ := boundL_get hb1
    rw [hb1]
    obtain ⟨s, er, HMk0, HRk0⟩ := make_both names A cap b hn hls
    have HMk := Lib.hid HMk0
    have HRk := Lib.hid HRk0
    clear HMk0 HRk0 hb1 hls
    go_wp2_with fail
    refine (shown_any _ h).mono ?_
    rintro e w1 ⟨rfl, o1⟩
    go_wp2_with fail
    refine (HMk.out _ (hS.old o1) (h.old o1)).mono ?_
    rintro e w2 ⟨rfl, o2⟩
    have o3 := o1.tr o2
    clear o1 o2 HMk
    go_wp2_with fail
    refine (HRk.out _ (hS.old o3)).mono ?_
    rintro e w3 ⟨rfl, o4⟩
    have o5 := o3.tr o4
    clear o3 o4 HRk
    go_wp2_with fail
    refine (full_any f (by omega) _).mono ?_
    rintro e w4 ⟨rfl, rfl⟩
    go_wp2_with fail
    refine (rfull_any f (by omega) _).mono ?_
    rintro e w4 ⟨rfl, rfl⟩
    generalize full f = q at *
    go_wp2_with fail
    refine (bits_any l (by omega) many (by omega) _ (h.old o5)).mono ?_
    rintro e w4 ⟨v1, rfl, i1, o6⟩
    obtain ⟨A1, c1, rfl, j1⟩ := i1.shape
    clear i1
    have o7 := o5.tr o6
    clear o5 o6
    go_wp2_with fail
    refine (rbits_any l (by omega) many (by omega) _).mono ?_
    rintro e w5 ⟨v2, rfl, i2, o8⟩
    obtain ⟨A2, c2, rfl, j2⟩ := i2.shape
    clear i2
    have j3 := j1.old o8
    have o9 := o7.tr o8
    clear o7 o8 j1
    have hpl : (places l many).length ≤ 4 := by unfold places; split <;> simp
    generalize places l many = ps at *
    go_wp2_with fail
    refine (same_any ps (by omega) A1 A2 c1 c2 _ j3 j2).mono ?_
    rintro e w6 ⟨rfl, o10⟩
    go_wp2
    go_ret
    exact ⟨rfl, o9.tr o10⟩
  · by_cases hb1 : boundL names = true
    · rw [hb1]
      by_cases h2 : l.length ≤ 200
      · have h3 : ¬ f.length ≤ 300 := fun h3 => hok ⟨hb1, h2, h3⟩
        clear hok hb1
        go_wp2_with fail
        refine (shown_any _ h).mono ?_
        rintro e w1 ⟨rfl, o1⟩
        go_wp2
        go_ret
        exact ⟨rfl, o1⟩
      · clear hok hb1
        go_wp2_with fail
        refine (shown_any _ h).mono ?_
        rintro e w1 ⟨rfl, o1⟩
        go_wp2
        go_ret
        exact ⟨rfl, o1⟩
    · have hb2 : boundL names = false := by simpa using hb1
      rw [hb2]
      clear hok hb1 hb2
      go_wp2_with fail
      refine (shown_any _ h).mono ?_
      rintro e w1 ⟨rfl, o1⟩
      go_wp2
      go_ret
      exact ⟨rfl, o1⟩

theorem bloomMakes_contract (H : Type) (enc : TypeId × Value → H) (W : World) (base : Nat) (args : Array Value) (ds gs : List (DataW H)) (before : List MemPlace)
    (hval0 : ∀ (j : Nat) t v, Tryd.f3.params[j]? = some t → args[j]? = some v → Value.okWide Tryd.prog W .any base t v)
    (hW : DataW.Whole enc Tryd.prog Tryd.f3.params.toList Rows.bloomMakesSpec.vars false W args.toList ds gs before) (hL : laidMetH Tryd.prog Rows.bloomMakesRow.laid W) :
    Calls Tryd.prog 3 args W fun e W' => ∃ v, e = .returned v ∧ Rows.bloomMakesSpec.post enc Tryd.prog Tryd.f3 false true false false W args v W' := by
  have ht : Tab W := table hL
  have hval : ∀ (j : Nat) t v, Tryd.f3.params[j]? = some t → args[j]? = some v → Value.okWide Tryd.prog W .any base t v := hval0
  have hW' := hW
  obtain ⟨p, q, hA0, hV, rfl, hfz, hnd⟩ := hW
  have hA : DataW.TrodAll enc Tryd.prog W 0 (fun _ => true) true Tryd.f3.params.toList args.toList ds p := hA0
  rw [Tryd.params3] at hA hval
  obtain ⟨v0, v1, v2, v3, v4, d0, d1, d2, d3, d4, p0, p1, p2, p3, p4, rfl, rfl, rfl, h0, h1, h2, h3, h4⟩ := trodAll_five hA
  obtain ⟨rfl, rfl⟩ := trodVars_none hV
  have hlt : ∀ x ∈ p0 ++ (p1 ++ (p2 ++ (p3 ++ (p4)))), x.block < W.heap.size := fun x hx => hW'.lt x (by simpa using hx)
  have k0 := h0
  have k1 := h1
  have k2 := h2
  have k3 := h3
  have k4 := h4
  obtain ⟨a0, A0, c0, rfl, o0, m0⟩ := open_strs (hval 0 22 v0 rfl rfl) h0 (fun x hx => hlt x (by simp [hx]))
  obtain ⟨a1, rfl, o1⟩ := open_i64 (hval 1 3 v1 rfl rfl) h1
  obtain ⟨a2, rfl, o2⟩ := open_str (hval 2 9 v2 rfl rfl) h2
  obtain ⟨a3, rfl, o3⟩ := open_str (hval 3 9 v3 rfl rfl) h3
  obtain ⟨a4, rfl, o4⟩ := open_u16 (hval 4 23 v4 rfl rfl) h4
  clear hA0 hval0
  refine (law_makes a0 A0 c0 a1 a2 a3 a4 m0 o2 o3 o4 W o0 ht).mono fun e W' ⟨he, hb⟩ => ?_
  subst he
  refine ⟨_, rfl, _, _, _, [], p0 ++ (p1 ++ (p2 ++ (p3 ++ (p4)))), [], hW', trodAll_mk1 (shut_bool Tryd.underlying4 _), ?_, rfl, hb.frame _, fun h => by cases h⟩
  have r0 := Below.trod Tryd.laidOut (by kernel_rfl) (of_decide_eq_true (by kernel_rfl)) k0 hb (fun x hx => hlt x (by simp [hx]))
  have r1 := Below.trod Tryd.laidOut (by kernel_rfl) (of_decide_eq_true (by kernel_rfl)) k1 hb (fun x hx => hlt x (by simp [hx]))
  have r2 := Below.trod Tryd.laidOut (by kernel_rfl) (of_decide_eq_true (by kernel_rfl)) k2 hb (fun x hx => hlt x (by simp [hx]))
  have r3 := Below.trod Tryd.laidOut (by kernel_rfl) (of_decide_eq_true (by kernel_rfl)) k3 hb (fun x hx => hlt x (by simp [hx]))
  have r4 := Below.trod Tryd.laidOut (by kernel_rfl) (of_decide_eq_true (by kernel_rfl)) k4 hb (fun x hx => hlt x (by simp [hx]))
  exact trodAll_mk5 r0 r1 r2 r3 r4

theorem bloomMakes_met (os : Os) : laidMet Tryd.prog Rows.bloomMakesRow.laid ((laidWorld os).forCall (fun _ _ => 0) ⟨#[], #[.slice none 0 0, .int .i64 0, .string ByteArray.empty, .string ByteArray.empty, .int .u16 0], []⟩).memory :=
  laidMet_of_run' 8 (by kernel_rfl) (by kernel_rfl)
theorem bloomMakes_reads (os : Os) {H : Type} (enc : TypeId × Value → H) : ∃ places, DataW.whole enc Tryd.prog ((laidWorld os).forCall (fun _ _ => 0) ⟨#[], #[.slice none 0 0, .int .i64 0, .string ByteArray.empty, .string ByteArray.empty, .int .u16 0], []⟩).memory Tryd.f3.params.toList Rows.bloomMakesSpec.vars false (#[.slice none 0 0, .int .i64 0, .string ByteArray.empty, .string ByteArray.empty, .int .u16 0] : Array Value).toList 8 = some ([.nil, .lit (.int .i64 0), .lit (.string []), .lit (.string []), .lit (.int .u16 0)], [], places) :=
  ⟨[], by kernel_rfl⟩

set_option maxRecDepth 100000 in
theorem bloomMakes_lifted (os : Os) (started : os.Started) (H : Type) (enc : TypeId × Value → H) (F : Stop.Interp) :
    ReturnsInHanded {} Tryd.checked os 3 .any ((OpenSpec.ofChange Rows.bloomMakesSpec).preRow enc Tryd.prog Tryd.f3 Rows.bloomMakesRow.domain false Rows.bloomMakesRow.laid) (((OpenSpec.ofChange Rows.bloomMakesSpec).at F).post enc Tryd.prog Tryd.f3 false true false false) := by
  obtain ⟨places, hx⟩ := bloomMakes_reads os enc
  refine returnsInHanded_of_row (C := Tryd.checked) (s := OpenSpec.ofChange Rows.bloomMakesSpec) Tryd.own started (by kernel_rfl) Tryd.func3
    (witness_row_at (enc := enc) (C := Tryd.checked) false (laidWorld os) #[.slice none 0 0, .int .i64 0, .string ByteArray.empty, .string ByteArray.empty, .int .u16 0] rfl (by kernel_rfl) (by kernel_rfl) (by kernel_rfl)
      (OpenSpec.preRow_of_cond 8 hx (by kernel_rfl) (fun k hk => by cases hk) (by kernel_rfl) (bloomMakes_met os))) ?_
  intro W base args ds gs before hval hW _ _ _ hL _ _
  exact bloomMakes_contract H enc W base args ds gs before hval hW hL

theorem bloomMakes_said : Rows.BloomMakesSaid :=
  OpenClaim.holds_of_cond 3 Tryd.f3 rfl rfl rfl rfl rfl rfl rfl ⟨rfl, rfl, rfl, rfl, rfl⟩ rfl rfl rfl rfl rfl (by kernel_rfl) Tryd.func3 (by kernel_rfl)
    (of_decide_eq_true (by kernel_rfl)) (by unfold Func.isWrapper; first | (rw [if_pos (by decide +kernel)]; kernel_rfl) | (rw [if_neg (by decide +kernel)]; exact ⟨rfl, rfl⟩))
    (fun os started H enc _ F => by rw [OpenClaim.pre_eq_preRow]; exact bloomMakes_lifted os started H enc F)

theorem bloomMakes_plain (f : FuncId) (fn : Func) (hf : Tryd.pinned.checked.prog.funcNamed Rows.bloomMakesRow.func = some f) (hfn : Tryd.pinned.checked.prog.funcs[f]? = some fn) :
    false = Tryd.pinned.checked.prog.looks [] ∧ ∀ (j : Nat) t, fn.params[j]? = some t → Tryd.pinned.checked.prog.wantsStandIn t = false := by
  obtain rfl : f = 3 := Option.some.inj ((show Tryd.prog.funcNamed Rows.bloomMakesRow.func = some 3 by kernel_rfl).symm.trans hf) |>.symm
  obtain rfl : fn = Tryd.f3 := (Option.some.inj (Tryd.func3.symm.trans hfn)).symm
  refine ⟨by kernel_rfl, fun j t ht => ?_⟩
  rw [Tryd.params3] at ht
  have hm := Array.mem_of_getElem? ht
  simp only [List.mem_toArray, List.mem_cons, List.not_mem_nil, or_false] at hm
  rcases hm with rfl | rfl | rfl | rfl | rfl
  all_goals first
    | exact (show Tryd.prog.wantsStandIn 22 = false by kernel_rfl)
    | exact (show Tryd.prog.wantsStandIn 3 = false by kernel_rfl)
    | exact (show Tryd.prog.wantsStandIn 9 = false by kernel_rfl)
    | exact (show Tryd.prog.wantsStandIn 23 = false by kernel_rfl)

theorem bloomMakes_card : Rows.BloomMakesCardSaid :=
  Claim7.holds_tied_plain_at .later [] _ _ _ _ bloomMakes_said (fun _ h => by cases h) (by kernel_rfl) (fun _ h => by cases h) bloomMakes_row_tie rfl ⟨rfl, rfl⟩ (by kernel_rfl) rfl bloomMakes_plain (by kernel_rfl)
#print axioms bloomMakes_card
end Go.Proofs.YtphonnihibikcaaDoor
