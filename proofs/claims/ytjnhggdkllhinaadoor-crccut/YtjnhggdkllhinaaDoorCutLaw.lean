/-
  CrcCut: whatever texts come in, and wherever they are cut, the law answers true, and leaves all as it was. Condition: the table is laid as the program's text lays it.
-/
import Derived.Test.YtjnhggdkllhinaaDoorSame
namespace Go.Proofs.YtjnhggdkllhinaaDoor
open Go.ChangeShapes Go.WideShapes Go.ChangeAt Go.RowKit Go.Joins Go.Deep

/-- Texts that were put one behind the other. -/
def puts (l : List (List UInt8)) : List UInt8 := (l.map put).flatten
theorem puts_snoc (l : List (List UInt8)) (k : Nat) (h : k < l.length) : puts (l.take (k + 1)) = puts (l.take k) ++ put l[k] := by
  unfold puts
  rw [List.take_succ_eq_append_getElem h, List.map_append, List.flatten_append]
  simp
theorem getV_cut (t r : List UInt8) (k : Nat) (h : t.length ≤ 65535) (hk : k < 6 + t.length) : ¬ (getV ((put t ++ r).take k)).2.2 = 0 := by
  have hp := put_length t
  have hl : ((put t ++ r).take k).length = k := by rw [List.length_take, List.length_append]; omega
  unfold getV
  by_cases h0 : (put t ++ r).take k = []
  · rw [if_pos h0]; decide
  rw [if_neg h0]
  by_cases h6 : ((put t ++ r).take k).length < 6
  · rw [if_pos h6]; decide
  rw [if_neg h6]
  have e2 : ((put t ++ r).take k).take 2 = low2 t.length := by
    rw [List.take_take, Nat.min_eq_left (by omega)]
    simp [put, low2]
  rw [e2, lowV_low2 _ (by omega), if_pos (by omega)]
  decide
theorem allV_put (t r : List UInt8) (k : Nat) (h : t.length ≤ 65535) (hk : 6 + t.length ≤ k) : allV ((put t ++ r).take k) = t :: allV (r.take (k - (6 + t.length))) := by
  have hp := put_length t
  have e : (put t ++ r).take k = put t ++ r.take (k - (6 + t.length)) := by
    rw [List.take_append, List.take_of_length_le (by omega), hp]
  have hg := getV_put t (r.take (k - (6 + t.length))) h
  rw [e, allV_yes (by rw [hg]), hg]
  congr 2
  rw [← hp, List.drop_left]
theorem puts_cons (t : List UInt8) (l : List (List UInt8)) : puts (t :: l) = put t ++ puts l := by simp [puts]

/-- Want texts are whole. -/
def Whole (l : List (List UInt8)) (k want : Nat) : Prop := allV ((puts l).take k) = l.take want ++ allV ((puts (l.drop want)).take (k - took (l.take want)))
theorem took_take (l : List (List UInt8)) (k : Nat) (h : k < l.length) : took (l.take (k + 1)) = took (l.take k) + (6 + l[k].length) := by
  rw [List.take_succ_eq_append_getElem h, took_snoc]
theorem Whole.go {l : List (List UInt8)} {k want : Nat} (h : Whole l k want) (hw : want < l.length) (ht : l[want].length ≤ 65535) (hk : took (l.take want) + (6 + l[want].length) ≤ k) : Whole l k (want + 1) := by
  unfold Whole at *
  rw [h, List.drop_eq_getElem_cons hw, puts_cons, allV_put _ _ _ ht (by omega), took_take l want hw, List.take_succ_eq_append_getElem hw, List.append_assoc]
  rw [show k - took (l.take want) - (6 + l[want].length) = k - (took (l.take want) + (6 + l[want].length)) by omega]
  rfl
theorem Whole.stop {l : List (List UInt8)} {k want : Nat} (h : Whole l k want) (hw : want < l.length) (ht : l[want].length ≤ 65535) (hk : ¬ took (l.take want) + (6 + l[want].length) ≤ k) : allV ((puts l).take k) = l.take want := by
  unfold Whole at h
  rw [h, List.drop_eq_getElem_cons hw, puts_cons, allV_no (getV_cut _ _ _ ht (by omega)), List.append_nil]
theorem Whole.done {l : List (List UInt8)} {k want : Nat} (h : Whole l k want) (hw : l.length ≤ want) : allV ((puts l).take k) = l.take want := by
  unfold Whole at h
  rw [h, List.drop_of_length_le hw]
  have : allV (List.take (k - took (List.take want l)) (puts [])) = [] := by
    rw [show puts [] = [] from rfl, List.take_nil]
    exact allV_no (by decide)
  rw [this, List.append_nil]
theorem Whole.zero (l : List (List UInt8)) (k : Nat) : Whole l k 0 := by
  unfold Whole
  simp [took]

theorem Strs.take {w : World} {A : Option Addr} {cap : Nat} {l : List (List UInt8)} (h : Strs w A cap l) (n : Nat) : Strs w A cap (l.take n) := by
  refine ⟨?_, fun i t ht => ?_⟩
  · have := h.1; simp; omega
  · rw [List.getElem?_take] at ht
    split at ht
    · exact h.2 i t ht
    · cases ht

set_option maxRecDepth 10000 in
set_option maxHeartbeats 4000000 in
theorem law_cut (l : List (List UInt8)) (A : Option Addr) (cap m : Nat) (w : World) (hm : m < 65536) (hA : Strs w A cap l) (hc : cap ≤ maxLen) (ht : Tab w) :
    Calls Tryd.prog 6 #[.slice A l.length cap, .int .u16 m] w fun e w' => e = .returned (.bool true) ∧ Old w w' := by
  have hlc := hA.1
  have hc2 : cap ≤ 2 ^ 63 - 1 := hc
  by_cases hl : l.length ≤ 30
  · go_enter Tryd.func6, Tryd.ntmps6
    go_wp2_with fail
    refine (shown_any _ ht).mono ?_
    rintro e w1 ⟨rfl, h1⟩
    go_wp2_with fail
    go_loopw [5, 6] (fun s i wr => ∃ k : Nat, k ≤ l.length ∧ i = .int .i64 k ∧ s = .string (B (puts (l.take k))) ∧ (puts (l.take k)).length ≤ 206 * k ∧ Old w wr ∧ Hid (∀ j t, j < k → l[j]? = some t → t.length ≤ 200)) (fun _ i _ => l.length - (intOf i).toNat)
    case atStart => exact ⟨0, Nat.zero_le _, rfl, rfl, by simp [puts], h1, Lib.hid (fun j t hj => by omega)⟩
    case round =>
      obtain ⟨k, hk, rfl, rfl, hjl, hw, HA⟩ := hrel
      by_cases hlt : k < l.length
      · obtain ⟨hm2, b, off, rfl, hcell⟩ := (hA.old hw).at_ k hlt
        have hm3 : l[k].length ≤ 2 ^ 63 - 1 := hm2
        have HJ := Lib.hid (puts_snoc l k hlt)
        have HK := Lib.hid (List.getElem?_eq_getElem hlt)
        have ht1 := ht.old hw
        generalize l[k] = t at *
        generalize puts (l.take k) = j at *
        by_cases h200 : t.length ≤ 200
        · go_wp2_with fail
          refine (put_yes t (by omega) _ ht1).mono ?_
          rintro e w2 ⟨rfl, h2⟩
          have hp := put_length t
          generalize put t = p at *
          go_wp2
          go_roundw
          case rel =>
            refine ⟨k + 1, by omega, by go_num, ?_, ?_, hw.tr h2, Lib.hid ?_⟩
            · rw [HJ.out, add_B]
            · rw [HJ.out, List.length_append]; omega
            · intro j' t' hj' ht'
              rcases Nat.lt_succ_iff_lt_or_eq.1 hj' with h | rfl
              · exact HA.out j' t' h ht'
              · rw [HK.out] at ht'; cases ht'; exact h200
          case measure => simp [intOf]; omega
        · go_wp2_with fail
          refine (shown_any _ ht1).mono ?_
          rintro e w2 ⟨rfl, h2⟩
          go_wp2
          go_ret
          exact ⟨rfl, hw.tr h2⟩
      · have hkl : k = l.length := by omega
        subst hkl
        rw [List.take_of_length_le (Nat.le_refl _)] at hjl ⊢
        have H200 := Lib.hid (fun (j : Nat) (hj : j < l.length) => HA.out j _ hj (List.getElem?_eq_getElem hj))
        clear HA
        obtain ⟨s, hs⟩ : ∃ s, puts l = s := ⟨_, rfl⟩
        rw [hs] at hjl ⊢
        have HS := Lib.hid hs
        clear hs
        obtain ⟨k, hkk⟩ : ∃ k, m % (s.length + 1) = k := ⟨_, rfl⟩
        have hx := Nat.mod_lt m (show 0 < s.length + 1 by omega)
        rw [hkk] at hx
        have hkI : (m : Int) % ((s.length : Int) + 1) = (k : Int) := by rw [← hkk]; simp
        clear hkk
        have ht1 := ht.old hw
        go_wp2_with fail
        go_loop [10, 11] (fun wn en => ∃ n : Nat, n ≤ l.length ∧ wn = .int .i64 n ∧ en = .int .i64 (took (l.take n) : Nat) ∧ took (l.take n) ≤ k ∧ Hid (Whole l k n)) (fun wn _ => l.length - (intOf wn).toNat)
        case atStart => exact ⟨0, Nat.zero_le _, rfl, by simp [took], by simp [took], Lib.hid (Whole.zero l k)⟩
        case round =>
          obtain ⟨n, hn, rfl, rfl, htk, HW⟩ := hrel
          have hln : (l.take n).length = n := by simp; omega
          have xk : (B s).extract 0 k = B (s.take k) := ext_take _ _
          have hsk : (s.take k).length = k := by simp; omega
          by_cases hlt : n < l.length
          · obtain ⟨-, b, off, rfl, hcell⟩ := (hA.old hw).at_ n hlt
            have h200 := H200.out n hlt
            have HG := Lib.hid (fun h => HW.out.go hlt (by omega) h)
            have HT := Lib.hid (fun h => HW.out.stop hlt (by omega) h)
            have HK := Lib.hid (took_take l n hlt)
            generalize l[n] = t at *
            generalize htt : took (l.take n) = tk at *
            by_cases hfit : tk + (6 + t.length) ≤ k
            · go_wp2
              go_round
              case rel =>
                refine ⟨n + 1, by omega, by go_num, ?_, by rw [HK.out]; omega, Lib.hid (HG.out hfit)⟩
                rw [HK.out, Int.natCast_add, Int.natCast_add]
                rfl
              case measure => simp [intOf]; omega
            · have HE := Lib.hid (show allV (s.take k) = l.take n by rw [← HS.out]; exact HT.out hfit)
              clear HG HT HK
              go_wp2_with fail
              refine (all_any (s.take k) (by omega) _ ht1).mono ?_
              rintro e w2 ⟨Aa, ca, rfl, sa, h2⟩
              rw [HE.out] at sa ⊢
              rw [hln]
              have sb := ((hA.old hw).old h2).take n
              have h3 := hw.tr h2
              clear h2 xk hsk
              generalize l.take n = r at *
              go_wp2_with fail
              have S1 := same_any r r Aa _ ca cap (by omega) (by omega) _ sa sb
              rw [hln] at S1
              refine S1.mono ?_
              rintro e w3 ⟨rfl, h4⟩
              go_wp2
              go_ret
              exact ⟨rfl, h3.tr h4⟩
          · have HE := Lib.hid (show allV (s.take k) = l.take n by rw [← HS.out]; exact HW.out.done (by omega))
            generalize htt : took (l.take n) = tk at *
            go_wp2_with fail
            refine (all_any (s.take k) (by omega) _ ht1).mono ?_
            rintro e w2 ⟨Aa, ca, rfl, sa, h2⟩
            rw [HE.out] at sa ⊢
            rw [hln]
            have sb := ((hA.old hw).old h2).take n
            have h3 := hw.tr h2
            clear h2 xk hsk
            generalize l.take n = r at *
            go_wp2_with fail
            have S1 := same_any r r Aa _ ca cap (by omega) (by omega) _ sa sb
            rw [hln] at S1
            refine S1.mono ?_
            rintro e w3 ⟨rfl, h4⟩
            go_wp2
            go_ret
            exact ⟨rfl, h3.tr h4⟩
  · go_enter Tryd.func6, Tryd.ntmps6
    go_wp2_with fail
    refine (shown_any _ ht).mono ?_
    rintro e w1 ⟨rfl, h1⟩
    go_wp2
    go_ret
    exact ⟨rfl, h1⟩

theorem crcCut_contract (H : Type) (enc : TypeId × Value → H) (W : World) (base : Nat) (args : Array Value) (ds gs : List (DataW H)) (before : List MemPlace)
    (hval0 : ∀ (j : Nat) t v, Tryd.f6.params[j]? = some t → args[j]? = some v → Value.okWide Tryd.prog W .any base t v)
    (hW : DataW.Whole enc Tryd.prog Tryd.f6.params.toList Rows.crcCutSpec.vars false W args.toList ds gs before) (hL : laidMetH Tryd.prog Rows.crcCutRow.laid W) :
    Calls Tryd.prog 6 args W fun e W' => ∃ v, e = .returned v ∧ Rows.crcCutSpec.post enc Tryd.prog Tryd.f6 false true false false W args v W' := by
  have ht : Tab W := table hL
  have hval : ∀ (j : Nat) t v, Tryd.f6.params[j]? = some t → args[j]? = some v → Value.okWide Tryd.prog W .any base t v := hval0
  have hW' := hW
  obtain ⟨p, q, hA0, hV, rfl, hfz, hnd⟩ := hW
  have hA : DataW.TrodAll enc Tryd.prog W 0 (fun _ => true) true Tryd.f6.params.toList args.toList ds p := hA0
  rw [Tryd.params6] at hA hval
  obtain ⟨v0, v1, d0, d1, p0, p1, rfl, rfl, rfl, h0, h1⟩ := trodAll_two hA
  obtain ⟨rfl, rfl⟩ := trodVars_none hV
  have hlt : ∀ x ∈ p0 ++ (p1), x.block < W.heap.size := fun x hx => hW'.lt x (by simpa using hx)
  have k0 := h0
  have k1 := h1
  obtain ⟨a0, A0, c0, rfl, o0, m0⟩ := open_strs (hval 0 32 v0 rfl rfl) h0 (fun x hx => hlt x (by simp [hx]))
  obtain ⟨a1, rfl, o1⟩ := open_u16 (hval 1 37 v1 rfl rfl) h1
  clear hA0 hval0
  refine (law_cut a0 A0 c0 a1 W o1 o0 m0 ht).mono fun e W' ⟨he, hb⟩ => ?_
  subst he
  refine ⟨_, rfl, _, _, _, [], p0 ++ (p1), [], hW', trodAll_mk1 (shut_bool Tryd.underlying4 _), ?_, rfl, hb.frame _, fun h => by cases h⟩
  have r0 := Below.trod Tryd.laidOut (by kernel_rfl) (of_decide_eq_true (by kernel_rfl)) k0 hb (fun x hx => hlt x (by simp [hx]))
  have r1 := Below.trod Tryd.laidOut (by kernel_rfl) (of_decide_eq_true (by kernel_rfl)) k1 hb (fun x hx => hlt x (by simp [hx]))
  exact trodAll_mk2 r0 r1

theorem crcCut_met (os : Os) : laidMet Tryd.prog Rows.crcCutRow.laid ((laidWorld os).forCall (fun _ _ => 0) ⟨#[], #[.slice none 0 0, .int .u16 0], []⟩).memory :=
  laidMet_of_run' 8 (by kernel_rfl) (by kernel_rfl)
theorem crcCut_reads (os : Os) {H : Type} (enc : TypeId × Value → H) : ∃ places, DataW.whole enc Tryd.prog ((laidWorld os).forCall (fun _ _ => 0) ⟨#[], #[.slice none 0 0, .int .u16 0], []⟩).memory Tryd.f6.params.toList Rows.crcCutSpec.vars false (#[.slice none 0 0, .int .u16 0] : Array Value).toList 8 = some ([.nil, .lit (.int .u16 0)], [], places) :=
  ⟨[], by kernel_rfl⟩

set_option maxRecDepth 100000 in
theorem crcCut_lifted (os : Os) (started : os.Started) (H : Type) (enc : TypeId × Value → H) (F : Stop.Interp) :
    ReturnsInHanded {} Tryd.checked os 6 .any ((OpenSpec.ofChange Rows.crcCutSpec).preRow enc Tryd.prog Tryd.f6 Rows.crcCutRow.domain false Rows.crcCutRow.laid) (((OpenSpec.ofChange Rows.crcCutSpec).at F).post enc Tryd.prog Tryd.f6 false true false false) := by
  obtain ⟨places, hx⟩ := crcCut_reads os enc
  refine returnsInHanded_of_row (C := Tryd.checked) (s := OpenSpec.ofChange Rows.crcCutSpec) Tryd.own started (by kernel_rfl) Tryd.func6
    (witness_row_at (enc := enc) (C := Tryd.checked) false (laidWorld os) #[.slice none 0 0, .int .u16 0] rfl (by kernel_rfl) (by kernel_rfl) (by kernel_rfl)
      (OpenSpec.preRow_of_cond 8 hx (by kernel_rfl) (fun k hk => by cases hk) (by kernel_rfl) (crcCut_met os))) ?_
  intro W base args ds gs before hval hW _ _ _ hL _ _
  exact crcCut_contract H enc W base args ds gs before hval hW hL

theorem crcCut_said : Rows.CrcCutSaid :=
  OpenClaim.holds_of_cond 6 Tryd.f6 rfl rfl rfl rfl rfl rfl rfl ⟨rfl, rfl, rfl, rfl, rfl⟩ rfl rfl rfl rfl rfl (by kernel_rfl) Tryd.func6 (by kernel_rfl)
    (of_decide_eq_true (by kernel_rfl)) (by unfold Func.isWrapper; first | (rw [if_pos (by decide +kernel)]; kernel_rfl) | (rw [if_neg (by decide +kernel)]; exact ⟨rfl, rfl⟩))
    (fun os started H enc _ F => by rw [OpenClaim.pre_eq_preRow]; exact crcCut_lifted os started H enc F)

theorem crcCut_plain (f : FuncId) (fn : Func) (hf : Tryd.pinned.checked.prog.funcNamed Rows.crcCutRow.func = some f) (hfn : Tryd.pinned.checked.prog.funcs[f]? = some fn) :
    false = Tryd.pinned.checked.prog.looks [] ∧ ∀ (j : Nat) t, fn.params[j]? = some t → Tryd.pinned.checked.prog.wantsStandIn t = false := by
  obtain rfl : f = 6 := Option.some.inj ((show Tryd.prog.funcNamed Rows.crcCutRow.func = some 6 by kernel_rfl).symm.trans hf) |>.symm
  obtain rfl : fn = Tryd.f6 := (Option.some.inj (Tryd.func6.symm.trans hfn)).symm
  refine ⟨by kernel_rfl, fun j t ht => ?_⟩
  rw [Tryd.params6] at ht
  have hm := Array.mem_of_getElem? ht
  simp only [List.mem_toArray, List.mem_cons, List.not_mem_nil, or_false] at hm
  rcases hm with rfl | rfl
  all_goals first
    | exact (show Tryd.prog.wantsStandIn 32 = false by kernel_rfl)
    | exact (show Tryd.prog.wantsStandIn 37 = false by kernel_rfl)

theorem crcCut_card : Rows.CrcCutCardSaid :=
  Claim7.holds_tied_plain_at .later [] _ _ _ _ crcCut_said (fun _ h => by cases h) (by kernel_rfl) (fun _ h => by cases h) crcCut_row_tie rfl ⟨rfl, rfl⟩ (by kernel_rfl) rfl crcCut_plain (by kernel_rfl)
#print axioms crcCut_card
end Go.Proofs.YtjnhggdkllhinaaDoor
