/-
  VdiskFull: whatever comes in, the law answers true, and leaves all as it was. No conditions.
-/
import Derived.Test.YtlhfcfalkmencaaVSd2
namespace Go.Proofs.Ytlhfcfalkmencaa
open Go.ChangeShapes Go.WideShapes Go.ChangeAt Go.RowKit Go.Joins Go.Deep Go.Maps

/-- The files of the second loop. -/
def Nth (L : List Fl) (j : Nat) : Prop := L.length = 1 + min j 199 ∧ ∀ f ∈ L, f.name = [102] ∨ ∃ q, q < j ∧ f.name = [110, UInt8.ofNat q]
theorem Nth.start {b : Nat} {a : List UInt8} : Nth (one [102] b a 0) 0 := ⟨rfl, fun f hf => by simp at hf; subst hf; exact .inl rfl⟩
theorem ofNat_ne {q j : Nat} (hq : q < j) (hj : j < 256) : UInt8.ofNat q ≠ UInt8.ofNat j := fun e => by
  have := congrArg UInt8.toNat e
  rw [UInt8.toNat_ofNat', UInt8.toNat_ofNat', Nat.mod_eq_of_lt (by omega), Nat.mod_eq_of_lt (by omega)] at this
  omega
theorem Nth.none {L : List Fl} {j : Nat} (h : Nth L j) (hj : j < 256) : fnd L [110, UInt8.ofNat j] = none := by
  refine fnd_none_of fun f hf e => ?_
  rcases h.2 f hf with h1 | ⟨q, hq, h1⟩
  · rw [h1] at e; simp at e
  · rw [h1] at e
    simp at e
    exact ofNat_ne hq hj e
theorem Nth.more {L : List Fl} {j b : Nat} (h : Nth L j) (hj : j < 199) : Nth (put ⟨[110, UInt8.ofNat j], b, [], 0⟩ L) (j + 1) := by
  have hn := h.none (by omega)
  refine ⟨?_, fun f hf => ?_⟩
  · unfold put
    rw [del_none hn, List.length_append, h.1]
    simp
    omega
  · rcases mem_put.1 hf with ⟨hf, _⟩ | rfl
    · rcases h.2 f hf with h1 | ⟨q, hq, h1⟩
      · exact .inl h1
      · exact .inr ⟨q, by omega, h1⟩
    · exact .inr ⟨j, by omega, rfl⟩
theorem Nth.full {L : List Fl} {j : Nat} (h : Nth L j) (hj : 199 ≤ j) : Nth L (j + 1) :=
  ⟨by rw [h.1]; omega, fun f hf => by
    rcases h.2 f hf with h1 | ⟨q, hq, h1⟩
    · exact .inl h1
    · exact .inr ⟨q, by omega, h1⟩⟩
theorem two_bs (j : Nat) (hj : j < 256) : (bs [110, UInt8.ofNat j]).toArray = #[.int .u8 110, .int .u8 (j : Int)] := by
  have : (UInt8.ofNat j).toNat = j := by rw [UInt8.toNat_ofNat', Nat.mod_eq_of_lt (by omega)]
  simp [bs, this]

set_option maxRecDepth 10000 in
set_option maxHeartbeats 4000000 in
theorem law_full (cp : Nat) (hcp : cp < 65536) (texts : List (List UInt8)) (A : Option Addr) (cap many : Nat) (hmy : many < 256) (w : World) (hS : Strs w A cap texts) :
    Calls Try.prog 5 #[.int .u16 cp, .slice A texts.length cap, .int .u8 many] w fun e w' => e = .returned (.bool true) ∧ Old w w' := by
  by_cases hn : texts.length ≤ 60
  case neg =>
    have d1 : decide ((60 : Int) < (texts.length : Int)) = true := by simp; omega
    go_enter Try.func5, Try.ntmps5
    go_wp2_with (go_at_call 8; refine (shown_any _).mono ?_; rintro e w1 ⟨rfl, k1⟩)
    go_ret
    exact ⟨rfl, k1⟩
  have d1 : decide ((60 : Int) < (texts.length : Int)) = false := by simp; omega
  obtain ⟨c, hc⟩ : ∃ c, c = cp % 500 := ⟨_, rfl⟩
  have hcI : (cp : Int) % 500 = (c : Int) := by omega
  have hcl : c < 500 := by omega
  clear hc
  go_enter Try.func5, Try.ntmps5
  go_wp2_with fail
  refine (shown_any _).mono ?_
  rintro e w1 ⟨rfl, k1⟩
  go_wp2_with fail
  refine (new_sd c (by omega) w w1 k1).mono ?_
  rintro e w2 ⟨d, m, rfl, s2⟩
  clear k1
  go_wp2_with fail
  refine (create_sd s2 [102] (by decide) rfl (by simp)).mono ?_
  rintro e w3 ⟨rfl, b, s3, -⟩
  rw [put_nil] at s3
  clear s2 d1
  go_wp2_with fail
  go_loopw [8, 9] (fun n i wr => ∃ (j : Nat) (a : List UInt8), j ≤ texts.length ∧ i = .int .i64 j ∧ n = .int .i64 (a.length : Int) ∧ a.length ≤ c ∧ Sd w wr ⟨d, m, c, one [102] b a 0, true, none⟩) (fun _ i _ => texts.length - (intOf i).toNat)
  case atStart => exact ⟨0, [], Nat.zero_le _, rfl, rfl, Nat.zero_le _, s3⟩
  case round =>
    clear s3
    obtain ⟨j, a, hj, rfl, rfl, hal, hsd⟩ := hrel
    by_cases hlt : j < texts.length
    · obtain ⟨hm1, bb, off, rfl, hcl⟩ := hS.at_ j hlt
      have HCL := Lib.hid fun (W : World) (o : Old w W) => cell_old hcl o
      clear hcl
      generalize texts[j] = t at *
      have hcl1 := HCL.out wr hsd.old
      unfold maxLen at hm1
      by_cases hl : t.length ≤ 200
      · have dl : decide ((200 : Int) < (t.length : Int)) = false := by simp; omega
        by_cases hfit : a.length + t.length ≤ c
        · have hfI : decide ((a.length : Int) + (t.length : Int) ≤ (c : Int)) = true := by simp; omega
          go_wp2_with fail
          refine (append_sd hsd [102] t (by decide) (fnd_one _ _ _ _) (by rw [total_one]; omega)).mono ?_
          rintro e w4 ⟨rfl, s4⟩
          rw [set_one] at s4
          simp only at s4
          clear hsd hcl1
          have hcl2 := HCL.out w4 s4.old
          have HZ := Lib.hid (size_sd s4)
          rw [total_one, List.length_append, Int.natCast_add] at HZ
          go_wp2_with fail
          refine HZ.out.mono ?_
          rintro e w5 ⟨rfl, s5, -⟩
          go_wp2
          go_roundw
          case rel => exact ⟨j + 1, a ++ t, by omega, by go_num, by rw [List.length_append]; go_num, by rw [List.length_append]; omega, s5⟩
          case measure => simp [intOf]; omega
        · have hfI : decide ((a.length : Int) + (t.length : Int) ≤ (c : Int)) = false := by simp; omega
          go_wp2_with fail
          refine (appendF_sd hsd [102] t (by omega) (by decide) (fnd_one _ _ _ _) (by rw [total_one]; omega)).mono ?_
          rintro e w4 ⟨rfl, s4, -⟩
          clear hsd hcl1
          have hcl2 := HCL.out w4 s4.old
          have HZ := Lib.hid (size_sd s4)
          rw [total_one] at HZ
          go_wp2_with fail
          refine HZ.out.mono ?_
          rintro e w5 ⟨rfl, s5, -⟩
          go_wp2
          go_roundw
          case rel => exact ⟨j + 1, a, by omega, by go_num, rfl, hal, s5⟩
          case measure => simp [intOf]; omega
      · have dl : decide ((200 : Int) < (t.length : Int)) = true := by simp; omega
        go_wp2_with (go_at_call 8; refine (shown_any _).mono ?_; rintro e w4 ⟨rfl, k4⟩)
        go_ret
        exact ⟨rfl, hsd.old.tr k4⟩
    · have hlI : decide ((j : Int) < (texts.length : Int)) = false := by simp; omega
      go_wp2_with fail
      go_loopw [11] (fun i wr => ∃ (j : Nat) (L : List Fl), j ≤ many ∧ i = .int .i64 j ∧ Nth L j ∧ Sd w wr ⟨d, m, c, L, true, none⟩) (fun i _ => many - (intOf i).toNat)
      case atStart => exact ⟨0, _, Nat.zero_le _, rfl, Nth.start, hsd⟩
      case round =>
        clear hsd
        obtain ⟨i, L, hi, rfl, hN, hsd⟩ := hrel
        by_cases hlt2 : i < many
        · have hsr := bytes_str (cap := 2) (new_bk wr 5 (bs [110, UInt8.ofNat i]).toArray)
          rw [two_bs i (by omega)] at hsr
          have hsr2 : (convert 38 9 (.slice (some ⟨wr.heap.size, 0, none⟩) 2 2)).run Try.prog (wr.alloc (.cells #[.int .u8 110, .int .u8 (i : Int)] 5)) = .ok (.string (B [110, UInt8.ofNat i])) (wr.alloc (.cells #[.int .u8 110, .int .u8 (i : Int)] 5)) := hsr
          clear hsr
          have wi1 : IntKind.u8.wrap (i : Int) = (i : Int) := by rw [IntKind.wrap_u8]; omega
          have wi2 : (i : Int) % 256 = (i : Int) := by omega
          have s1 := hsd.go (old_alloc wr (.cells #[.int .u8 110, .int .u8 (i : Int)] 5))
          have hlen := hN.1
          by_cases h199 : i < 199
          · have h19I : decide ((i : Int) < 199) = true := by simp; omega
            have HC := Lib.hid (create_sd s1 [110, UInt8.ofNat i] (by unfold bad; simp) (hN.none (by omega)) (by omega))
            have HNM := Lib.hid fun b => hN.more (b := b) h199
            clear hsd s1 hN hlen
            go_wp2_with fail
            refine HC.out.mono ?_
            rintro e w4 ⟨rfl, b4, s4, -⟩
            go_wp2
            go_roundw
            case rel => exact ⟨i + 1, _, by omega, by go_num, HNM.out _, s4⟩
            case measure => simp [intOf]; omega
          · have h19I : decide ((i : Int) < 199) = false := by simp; omega
            have HC := Lib.hid (createF_sd s1 [110, UInt8.ofNat i] (by unfold bad; simp) (hN.none (by omega)) (by omega))
            have hNM := hN.full (by omega)
            clear hsd s1 hN hlen
            go_wp2_with fail
            refine HC.out.mono ?_
            rintro e w4 ⟨rfl, s4, -⟩
            go_wp2
            go_roundw
            case rel => exact ⟨i + 1, _, by omega, by go_num, hNM, s4⟩
            case measure => simp [intOf]; omega
        · obtain rfl : i = many := by omega
          have HL := Lib.hid (list_sd hsd)
          rw [rise_length, hN.1] at HL
          go_wp2_with fail
          refine HL.out.mono ?_
          rintro e w4 ⟨A4, c4, rfl, -, s4, -⟩
          clear hsd
          go_wp2
          go_ret
          refine ⟨ret_bool ?_, s4.old⟩
          rw [beq_iff_eq]
          omega

set_option maxRecDepth 100000 in
theorem vdiskFull_lifted (os : Os) (started : os.Started) (H : Type) (enc : TypeId × Value → H) :
    ReturnsInHanded {} Try.checked os 5 .any (Rows.vdiskFullSpec.pre6 enc Try.prog Try.f5 Rows.vdiskFullRow.domain false) (Rows.vdiskFullSpec.post enc Try.prog Try.f5 false true false false) := by
  refine returnsInHanded_of_change (C := Try.checked) Try.own started (by kernel_rfl) Try.func5
    (ChangeSpec.witness6 (enc := enc) (C := Try.checked) false ⟨#[], #[.int .u16 0, .slice none 0 0, .int .u8 0], []⟩ 8 (by kernel_rfl) (by kernel_rfl) (by kernel_rfl) (by kernel_rfl)) ?_
  intro W base args ds gs before hval0 hW hcnd _
  have hval : ∀ (j : Nat) t v, Try.f5.params[j]? = some t → args[j]? = some v → Value.okWide Try.prog W .any base t v := hval0
  have hW' := hW
  obtain ⟨p, q, hA0, hV, rfl, hfz, hnd⟩ := hW
  have hA : DataW.TrodAll enc Try.prog W 0 (fun _ => true) true Try.f5.params.toList args.toList ds p := hA0
  rw [Try.params5] at hA hval
  obtain ⟨v0, v1, v2, d0, d1, d2, p0, p1, p2, rfl, rfl, rfl, h0, h1, h2⟩ := trodAll_three hA
  obtain ⟨rfl, rfl⟩ := trodVars_none hV
  have hlt : ∀ x ∈ p0 ++ (p1 ++ (p2)), x.block < W.heap.size := fun x hx => hW'.lt x (by simpa using hx)
  have k0 := h0
  have k1 := h1
  have k2 := h2
  obtain ⟨a0, rfl, o0⟩ := open_u16 (hval 0 37 v0 rfl rfl) h0
  obtain ⟨a1, A1, c1, rfl, o1, m1⟩ := open_strs (hval 1 22 v1 rfl rfl) h1 (fun x hx => hlt x (by simp [hx]))
  obtain ⟨a2, rfl, o2⟩ := open_u8 (hval 2 5 v2 rfl rfl) h2
  clear hA0 hval0
  refine (law_full a0 o0 a1 A1 c1 a2 o2 W o1).mono fun e W' ⟨he, hb⟩ => ?_
  subst he
  refine ⟨_, rfl, _, _, _, [], p0 ++ (p1 ++ (p2)), [], hW', trodAll_mk1 (shut_bool Try.underlying4 _), ?_, rfl, hb.frame _, fun h => by cases h⟩
  have r0 := Below.trod Try.laidOut (by kernel_rfl) (of_decide_eq_true (by kernel_rfl)) k0 hb (fun x hx => hlt x (by simp [hx]))
  have r1 := Below.trod Try.laidOut (by kernel_rfl) (of_decide_eq_true (by kernel_rfl)) k1 hb (fun x hx => hlt x (by simp [hx]))
  have r2 := Below.trod Try.laidOut (by kernel_rfl) (of_decide_eq_true (by kernel_rfl)) k2 hb (fun x hx => hlt x (by simp [hx]))
  exact trodAll_mk3 r0 r1 r2

theorem vdiskFull_holds : Rows.VdiskFullSaid :=
  OpenClaim.holds_of_wide 5 Try.f5 rfl rfl rfl rfl rfl rfl rfl ⟨rfl, rfl, rfl, rfl, rfl⟩ rfl rfl rfl rfl rfl (by kernel_rfl) Try.func5 (by kernel_rfl)
    (of_decide_eq_true (by kernel_rfl)) (by unfold Func.isWrapper; first | (rw [if_pos (by decide +kernel)]; kernel_rfl) | (rw [if_neg (by decide +kernel)]; exact ⟨rfl, rfl⟩))
    (fun os started H enc _ => vdiskFull_lifted os started H enc)
#print axioms vdiskFull_holds
end Go.Proofs.Ytlhfcfalkmencaa
