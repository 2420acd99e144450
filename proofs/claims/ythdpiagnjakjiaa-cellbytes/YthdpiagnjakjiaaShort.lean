/-
  CellShort: whatever cell comes in, and wherever its bytes are cut, the law answers true, and leaves all as it was. No conditions.
-/
import Derived.Test.YthdpiagnjakjiaaLift
namespace Go.Proofs.Ythdpiagnjakjiaa
open Go.ChangeShapes Go.WideShapes Go.ChangeAt Go.RowKit Go.Joins Go.Deep

/-- A cell that was boxed first. -/
structure F1 (w W : World) (a : Cel) : Prop where
  ba : Bk W w.heap.size 24 (cells a)
  od : Old w W
theorem F1.old {w W W' : World} {a : Cel} (h : F1 w W a) (k : Old W W') : F1 w W' a := ⟨h.ba.old k, h.od.tr k⟩
theorem F1.new (w : World) (a : Cel) : F1 w (w.alloc (.cells (cells a) 24)) a := ⟨new_bk w _ _, (Old.re _).al _⟩

theorem eqlZero (w : World) : (binOp .eql 24 (.agg zeroCell) (.agg zeroCell)).run Try.prog w = .ok (.bool true) w :=
  eqlCell ⟨[], [], 0, 0, false, []⟩ ⟨[], [], 0, 0, false, []⟩ w

set_option maxRecDepth 100000 in
set_option maxHeartbeats 4000000 in
theorem law_short (c : Cel) (n : Nat) (hn : n < 65536) (hok : c.ok) (w : World) :
    Calls Try.prog 10 #[cv c, .int .u16 n] w fun e w' => e = .returned (.bool true) ∧ Old w w' := by
  go_enter Try.func10, Try.ntmps10
  have f0 := F1.new w c
  go_wp2_with fail
  refine (bounded_any c _).mono ?_
  rintro r w1 ⟨rfl, h1⟩
  have f1 := f0.old h1
  clear f0 h1
  cases hbd : boundedB c
  · go_wp2_with fail
    refine (shown_any _).mono ?_
    rintro r w2 ⟨rfl, h2⟩
    go_wp2
    go_ret
    exact ⟨rfl, f1.od.tr h2⟩
  go_wp2_with fail
  refine (shown_any _).mono ?_
  rintro r w2 ⟨rfl, h2⟩
  have f2 := f1.old h2
  clear f1 h2
  obtain ⟨a0, a1, a2, a3, a4, a5⟩ := f2.ba.six
  by_cases hm : mayB c = true
  · go_wp2_with fail
    refine (encode_yes c _ hm hok).mono ?_
    rintro r w3 ⟨rfl, h3⟩
    have f3 := f2.old h3
    clear f2 h3 a0 a1 a2 a3 a4 a5
    have hlen : 0 < (enc c).length := by simp [enc, text1]
    have hle : (enc c).length ≤ 1000 := by
      obtain ⟨q1, q2, q3, q4, q5⟩ := mayB_parts hm
      simp [enc, text1, low8, flag1_len]; omega
    have HD := Lib.hid (decV_err (dec_cut c (n % (enc c).length) hm hok (Nat.mod_lt _ hlen)) (by omega))
    clear hm hok
    generalize enc c = s at *
    have hx := Nat.mod_lt n hlen
    go_wp2_with fail
    rw [ext_take]
    refine (decode_any _ _ (by simp; omega)).mono ?_
    rintro r w4 ⟨rfl, h4⟩
    have f4 := f3.old h4
    clear f3 h4
    rw [HD.out]
    have he := eqlZero
    go_wp2
    go_ret
    exact ⟨rfl, f4.od.al _⟩
  · have hm2 : mayB c = false := by simpa using hm
    go_wp2_with fail
    refine (encode_no c _ hm2).mono ?_
    rintro r w3 ⟨rfl, h3⟩
    have f3 := f2.old h3
    clear f2 h3 a0 a1 a2 a3 a4 a5
    go_wp2
    go_ret
    exact ⟨rfl, f3.od⟩

set_option maxRecDepth 100000 in
theorem cellShort_lifted (os : Os) (started : os.Started) (H : Type) (enc : TypeId × Value → H) :
    ReturnsInHanded {} Try.checked os 10 .any (Rows.cellShortSpec.pre6 enc Try.prog Try.f10 Rows.cellShortRow.domain false) (Rows.cellShortSpec.post enc Try.prog Try.f10 false true false false) := by
  refine returnsInHanded_of_change (C := Try.checked) Try.own started (by kernel_rfl) Try.func10
    (ChangeSpec.witness6 (enc := enc) (C := Try.checked) false ⟨#[], #[.agg zeroCell, .int .u16 0], []⟩ 8 (by kernel_rfl) (by kernel_rfl) (by kernel_rfl) (by kernel_rfl)) ?_
  intro W base args ds gs before hval0 hW hcnd _
  have hval : ∀ (j : Nat) t v, Try.f10.params[j]? = some t → args[j]? = some v → Value.okWide Try.prog W .any base t v := hval0
  have hW' := hW
  obtain ⟨p, q, hA0, hV, rfl, hfz, hnd⟩ := hW
  have hA : DataW.TrodAll enc Try.prog W 0 (fun _ => true) true Try.f10.params.toList args.toList ds p := hA0
  rw [Try.params10] at hA hval
  obtain ⟨v0, v1, d0, d1, p0, p1, rfl, rfl, rfl, h0, h1⟩ := trodAll_two hA
  obtain ⟨rfl, rfl⟩ := trodVars_none hV
  have hlt : ∀ x ∈ p0 ++ (p1), x.block < W.heap.size := fun x hx => hW'.lt x (by simpa using hx)
  have k0 := h0
  have k1 := h1
  obtain ⟨a0, rfl, o0, -⟩ := open_cel (hval 0 24 v0 rfl rfl) h0
  obtain ⟨a1, rfl, o1⟩ := open_u16 (hval 1 42 v1 rfl rfl) h1
  clear hA0 hval0
  refine (law_short a0 a1 o1 o0 W).mono fun e W' ⟨he, hb⟩ => ?_
  subst he
  refine ⟨_, rfl, _, _, _, [], p0 ++ (p1), [], hW', trodAll_mk1 (shut_bool Try.underlying4 _), ?_, rfl, hb.frame _, fun h => by cases h⟩
  have r0 := Below.trod Try.laidOut (by kernel_rfl) (of_decide_eq_true (by kernel_rfl)) k0 hb (fun x hx => hlt x (by simp [hx]))
  have r1 := Below.trod Try.laidOut (by kernel_rfl) (of_decide_eq_true (by kernel_rfl)) k1 hb (fun x hx => hlt x (by simp [hx]))
  exact trodAll_mk2 r0 r1

theorem cellShort_holds : Rows.CellShortSaid :=
  OpenClaim.holds_of_wide 10 Try.f10 rfl rfl rfl rfl rfl rfl rfl ⟨rfl, rfl, rfl, rfl, rfl⟩ rfl rfl rfl rfl rfl (by kernel_rfl) Try.func10 (by kernel_rfl)
    (of_decide_eq_true (by kernel_rfl)) (by unfold Func.isWrapper; first | (rw [if_pos (by decide +kernel)]; kernel_rfl) | (rw [if_neg (by decide +kernel)]; exact ⟨rfl, rfl⟩))
    (fun os started H enc _ => cellShort_lifted os started H enc)
#print axioms cellShort_holds
end Go.Proofs.Ythdpiagnjakjiaa
