/-
  CellBytes: whatever cell and whatever text come in, the law answers true, and leaves all as it was. No conditions.
-/
import Derived.Test.YthdpiagnjakjiaaRefEnc
import Derived.Test.YthdpiagnjakjiaaRefDec
import Derived.Test.YthdpiagnjakjiaaShort
namespace Go.Proofs.Ythdpiagnjakjiaa
open Go.ChangeShapes Go.WideShapes Go.ChangeAt Go.RowKit Go.Joins Go.Deep

theorem eqB_same (c : Cel) : eqB c c = true := (eqB_iff c c).2 rfl
/-- What Decode answers is a cell, a text and a number. -/
theorem decV_form (s : List UInt8) : ∃ (x : Cel) (r : List UInt8) (e : Int), decV s = .tuple #[cv x, .string (B r), .int .i64 e] := by
  unfold decV
  split
  · split
    · exact ⟨_, _, _, rfl⟩
    · exact ⟨⟨[], [], 0, 0, false, []⟩, [], 1, rfl⟩
  · exact ⟨⟨[], [], 0, 0, false, []⟩, [], _, rfl⟩
/-- The text and the number that Encode answers. -/
def encR (c : Cel) : List UInt8 := if mayB c = true then enc c else []
def encE (c : Cel) : Int := if mayB c = true then 0 else 1
theorem encode_at (c : Cel) (w : World) (hok : c.ok) : Calls Try.prog 25 #[cv c] w fun e w' => e = .returned (.tuple #[.string (B (encR c)), .int .i64 (encE c)]) ∧ Old w w' := by
  cases hm : mayB c
  · rw [show encR c = [] by simp [encR, hm], show encE c = 1 by simp [encE, hm]]; exact encode_no c w hm
  · rw [show encR c = enc c by simp [encR, hm], show encE c = 0 by simp [encE, hm]]; exact encode_yes c w hm hok
theorem rencode_at (c : Cel) (w : World) (hok : c.ok) : Calls Try.prog 26 #[cv c] w fun e w' => e = .returned (.tuple #[.string (B (encR c)), .int .i64 (encE c)]) ∧ Old w w' := by
  cases hm : mayB c
  · rw [show encR c = [] by simp [encR, hm], show encE c = 1 by simp [encE, hm]]; exact rencode_no c w hm
  · rw [show encR c = enc c by simp [encR, hm], show encE c = 0 by simp [encE, hm]]; exact rencode_yes c w hm hok

set_option maxRecDepth 100000 in
set_option maxHeartbeats 4000000 in
theorem law_bytes (c : Cel) (s : List UInt8) (hok : c.ok) (w : World) :
    Calls Try.prog 5 #[cv c, .string (B s)] w fun e w' => e = .returned (.bool true) ∧ Old w w' := by
  have f0 := F1.new w c
  by_cases hl : s.length ≤ 400
  case neg =>
    have hI : decide ((400 : Int) < s.length) = true := by simp; omega
    go_enter Try.func5, Try.ntmps5
    go_wp2_with fail
    refine (shown_any _).mono ?_
    rintro r w2 ⟨rfl, h2⟩
    go_wp2
    go_ret
    exact ⟨rfl, f0.od.tr h2⟩
  have hI : decide ((400 : Int) < s.length) = false := by simp; omega
  go_enter Try.func5, Try.ntmps5
  go_wp2_with fail
  refine (bounded_any c _).mono ?_
  rintro r w1 ⟨rfl, h1⟩
  have f1 := f0.old h1
  clear f0 h1
  cases hbd : boundedB c
  · go_wp2_with fail
    refine (shown_any _).mono ?_
    rintro r w2 ⟨rfl, h2⟩
    go_wp2
    go_ret
    exact ⟨rfl, f1.od.tr h2⟩
  go_wp2_with fail
  refine (shown_any _).mono ?_
  rintro r w2 ⟨rfl, h2⟩
  have f2 := f1.old h2
  clear f1 h2 hI
  obtain ⟨a0, a1, a2, a3, a4, a5⟩ := f2.ba.six
  go_wp2_with fail
  refine (encode_at c _ hok).mono ?_
  rintro r w3 ⟨rfl, h3⟩
  have f3 := f2.old h3
  clear f2 h3 a0 a1 a2 a3 a4 a5
  obtain ⟨a0, a1, a2, a3, a4, a5⟩ := f3.ba.six
  go_wp2_with fail
  refine (rencode_at c _ hok).mono ?_
  rintro r w4 ⟨rfl, h4⟩
  have f4 := f3.old h4
  clear f3 h4 a0 a1 a2 a3 a4 a5
  generalize encR c = kk at *
  generalize encE c = ke at *
  obtain ⟨x, t, e, hx⟩ := decV_form s
  have HX := Lib.hid hx
  clear hx
  go_wp2_with fail
  refine (decode_any s _ (by omega)).mono ?_
  rintro r w5 ⟨rfl, h5⟩
  have f5 := f4.old h5
  clear f4 h5
  rw [HX.out]
  go_upto_region 6 with (fail)
  have bX := new_bk w5 24 (cells x)
  have f6 := f5.old (old_alloc w5 (.cells (cells x) 24))
  generalize w5.alloc (.cells (cells x) 24) = w6 at *
  generalize w5.heap.size = gX at *
  clear f5
  go_wp2_with fail
  refine (rdecode_any s _ (by omega)).mono ?_
  rintro r w7 ⟨rfl, h7⟩
  have f7 := f6.old h7
  have bX := bX.old h7
  clear f6 h7
  rw [HX.out]
  go_upto_region 7 with (fail)
  have bY := new_bk w7 24 (cells x)
  have bX := bX.alloc (.cells (cells x) 24)
  have f8 := f7.old (old_alloc w7 (.cells (cells x) 24))
  generalize w7.alloc (.cells (cells x) 24) = w8 at *
  generalize w7.heap.size = gY at *
  clear f7
  obtain ⟨a0, a1, a2, a3, a4, a5⟩ := f8.ba.six
  obtain ⟨x0, x1, x2, x3, x4, x5⟩ := bX.six
  obtain ⟨y0, y1, y2, y3, y4, y5⟩ := bY.six
  have e1 : ∀ W, (binOp .eql 24 (cv x) (cv x)).run Try.prog W = .ok (.bool true) W := fun W => by rw [eqlCell, eqB_same]
  clear bX bY hok hl hbd
  go_wp2
  go_ret
  exact ⟨rfl, f8.od⟩

set_option maxRecDepth 100000 in
theorem cellBytes_lifted (os : Os) (started : os.Started) (H : Type) (enc : TypeId × Value → H) :
    ReturnsInHanded {} Try.checked os 5 .any (Rows.cellBytesSpec.pre6 enc Try.prog Try.f5 Rows.cellBytesRow.domain false) (Rows.cellBytesSpec.post enc Try.prog Try.f5 false true false false) := by
  refine returnsInHanded_of_change (C := Try.checked) Try.own started (by kernel_rfl) Try.func5
    (ChangeSpec.witness6 (enc := enc) (C := Try.checked) false ⟨#[], #[.agg zeroCell, .string ByteArray.empty], []⟩ 8 (by kernel_rfl) (by kernel_rfl) (by kernel_rfl) (by kernel_rfl)) ?_
  intro W base args ds gs before hval0 hW hcnd _
  have hval : ∀ (j : Nat) t v, Try.f5.params[j]? = some t → args[j]? = some v → Value.okWide Try.prog W .any base t v := hval0
  have hW' := hW
  obtain ⟨p, q, hA0, hV, rfl, hfz, hnd⟩ := hW
  have hA : DataW.TrodAll enc Try.prog W 0 (fun _ => true) true Try.f5.params.toList args.toList ds p := hA0
  rw [Try.params5] at hA hval
  obtain ⟨v0, v1, d0, d1, p0, p1, rfl, rfl, rfl, h0, h1⟩ := trodAll_two hA
  obtain ⟨rfl, rfl⟩ := trodVars_none hV
  have hlt : ∀ x ∈ p0 ++ (p1), x.block < W.heap.size := fun x hx => hW'.lt x (by simpa using hx)
  have k0 := h0
  have k1 := h1
  obtain ⟨a0, rfl, o0, -⟩ := open_cel (hval 0 24 v0 rfl rfl) h0
  obtain ⟨a1, rfl, o1⟩ := open_str (hval 1 9 v1 rfl rfl) h1
  clear hA0 hval0
  refine (law_bytes a0 a1 o0 W).mono fun e W' ⟨he, hb⟩ => ?_
  subst he
  refine ⟨_, rfl, _, _, _, [], p0 ++ (p1), [], hW', trodAll_mk1 (shut_bool Try.underlying4 _), ?_, rfl, hb.frame _, fun h => by cases h⟩
  have r0 := Below.trod Try.laidOut (by kernel_rfl) (of_decide_eq_true (by kernel_rfl)) k0 hb (fun x hx => hlt x (by simp [hx]))
  have r1 := Below.trod Try.laidOut (by kernel_rfl) (of_decide_eq_true (by kernel_rfl)) k1 hb (fun x hx => hlt x (by simp [hx]))
  exact trodAll_mk2 r0 r1

theorem cellBytes_holds : Rows.CellBytesSaid :=
  OpenClaim.holds_of_wide 5 Try.f5 rfl rfl rfl rfl rfl rfl rfl ⟨rfl, rfl, rfl, rfl, rfl⟩ rfl rfl rfl rfl rfl (by kernel_rfl) Try.func5 (by kernel_rfl)
    (of_decide_eq_true (by kernel_rfl)) (by unfold Func.isWrapper; first | (rw [if_pos (by decide +kernel)]; kernel_rfl) | (rw [if_neg (by decide +kernel)]; exact ⟨rfl, rfl⟩))
    (fun os started H enc _ => cellBytes_lifted os started H enc)
#print axioms cellBytes_holds
end Go.Proofs.Ythdpiagnjakjiaa
