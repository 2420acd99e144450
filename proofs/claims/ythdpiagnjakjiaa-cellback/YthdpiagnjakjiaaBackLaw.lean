/-
  CellBack: whatever cell comes in, and whatever text behind its bytes, the law answers true, and leaves all as it was. No conditions.
-/
import Derived.Test.YthdpiagnjakjiaaShort
import Derived.Test.YthdpiagnjakjiaaKeyBack
namespace Go.Proofs.Ythdpiagnjakjiaa
open Go.ChangeShapes Go.WideShapes Go.ChangeAt Go.RowKit Go.Joins Go.Deep

theorem enc_le {c : Cel} (hm : mayB c = true) : (enc c).length ≤ 1000 := by
  obtain ⟨q1, q2, q3, q4, q5⟩ := mayB_parts hm
  simp [enc, text1, low8, flag1_len]; omega
theorem key_le {c : Cel} (hm : mayB c = true) : (key c).length ≤ 1000 := by
  obtain ⟨q1, q2, q3, q4, q5⟩ := mayB_parts hm
  have m1 := marks_le40 _ q2
  have m2 := marks_le40 _ q4
  simp [key, high8]; omega
theorem eqB_refl (c : Cel) : eqB c c = true := (eqB_iff c c).2 rfl

set_option maxRecDepth 100000 in
set_option maxHeartbeats 4000000 in
theorem law_back (c : Cel) (rest : List UInt8) (hok : c.ok) (w : World) :
    Calls Try.prog 7 #[cv c, .string (B rest)] w fun e w' => e = .returned (.bool true) ∧ Old w w' := by
  go_enter Try.func7, Try.ntmps7
  have f0 := F1.new w c
  go_wp2_with fail
  refine (bounded_any c _).mono ?_
  rintro r w1 ⟨rfl, h1⟩
  have f1 := f0.old h1
  clear f0 h1
  cases hbd : boundedB c
  · go_wp2_with fail
    refine (shown_any _).mono ?_
    rintro r w2 ⟨rfl, h2⟩
    go_wp2
    go_ret
    exact ⟨rfl, f1.od.tr h2⟩
  by_cases hl : rest.length ≤ 300
  case neg =>
    have hI : decide ((300 : Int) < rest.length) = true := by simp; omega
    go_wp2_with fail
    refine (shown_any _).mono ?_
    rintro r w2 ⟨rfl, h2⟩
    go_wp2
    go_ret
    exact ⟨rfl, f1.od.tr h2⟩
  have hI : decide ((300 : Int) < rest.length) = false := by simp; omega
  go_wp2_with fail
  refine (shown_any _).mono ?_
  rintro r w2 ⟨rfl, h2⟩
  have f2 := f1.old h2
  clear f1 h2 hI
  obtain ⟨a0, a1, a2, a3, a4, a5⟩ := f2.ba.six
  by_cases hm : mayB c = true
  · have hle := enc_le hm
    have hke := key_le hm
    go_wp2_with fail
    refine (encode_yes c _ hm hok).mono ?_
    rintro r w3 ⟨rfl, h3⟩
    have f3 := f2.old h3
    clear f2 h3 a0 a1 a2 a3 a4 a5
    obtain ⟨a0, a1, a2, a3, a4, a5⟩ := f3.ba.six
    go_wp2_with fail
    refine (key_yes c _ hm hok).mono ?_
    rintro r w4 ⟨rfl, h4⟩
    have f4 := f3.old h4
    clear f3 h4 a0 a1 a2 a3 a4 a5
    go_wp2_with fail
    rw [add_B]
    refine (decode_any (enc c ++ rest) _ (by simp; omega)).mono ?_
    rintro r w5 ⟨rfl, h5⟩
    have f5 := f4.old h5
    clear f4 h5
    rw [decV_enc c rest hm hok]
    go_upto_region 8 with (fail)
    have bX := new_bk w5 24 (cells c)
    have f6 := f5.old (old_alloc w5 (.cells (cells c) 24))
    generalize w5.alloc (.cells (cells c) 24) = w6 at *
    generalize w5.heap.size = gX at *
    clear f5
    go_wp2_with fail
    refine (fromKey_any (key c) _ hke).mono ?_
    rintro r w7 ⟨rfl, h7⟩
    have f7 := f6.old h7
    have bX := bX.old h7
    clear f6 h7
    rw [show fromV (key c) = .tuple #[cv (bare c), .int .i64 0] by simp [fromV, fromK_key c hm hok]]
    go_upto_region 9 with (fail)
    have bY := new_bk w7 24 (cells (bare c))
    have bX := bX.alloc (.cells (cells (bare c)) 24)
    have f8 := f7.old (old_alloc w7 (.cells (cells (bare c)) 24))
    generalize w7.alloc (.cells (cells (bare c)) 24) = w8 at *
    generalize w7.heap.size = gY at *
    clear f7
    obtain ⟨a0, a1, a2, a3, a4, a5⟩ := f8.ba.six
    obtain ⟨x0, x1, x2, x3, x4, x5⟩ := bX.six
    obtain ⟨y0, y1, y2, y3, y4, y5⟩ : w8.cell? ⟨gY, 0, none⟩ = some (.string (B c.row)) ∧ w8.cell? ⟨gY, 1, none⟩ = some (.string (B c.col)) ∧ w8.cell? ⟨gY, 2, none⟩ = some (.int .u64 c.ts) ∧ w8.cell? ⟨gY, 3, none⟩ = some (.int .u64 c.seq) ∧ w8.cell? ⟨gY, 4, none⟩ = some (.bool false) ∧ w8.cell? ⟨gY, 5, none⟩ = some (.string ⟨#[]⟩) := bY.six
    have e1 : ∀ W, (binOp .eql 24 (cv c) (cv c)).run Try.prog W = .ok (.bool true) W := fun W => by rw [eqlCell, eqB_refl]
    have e2 : ∀ W, (binOp .eql 24 (.agg #[.string (B c.row), .string (B c.col), .int .u64 c.ts, .int .u64 c.seq, .bool false, .string ⟨#[]⟩]) (.agg #[.string (B c.row), .string (B c.col), .int .u64 c.ts, .int .u64 c.seq, .bool false, .string ⟨#[]⟩])).run Try.prog W = .ok (.bool true) W := fun W => (eqlCell (bare c) (bare c) W).trans (by rw [eqB_refl])
    clear bX bY hm hok hle hke
    go_wp2
    go_ret
    exact ⟨rfl, f8.od⟩
  · have hm2 : mayB c = false := by simpa using hm
    go_wp2_with fail
    refine (encode_no c _ hm2).mono ?_
    rintro r w3 ⟨rfl, h3⟩
    have f3 := f2.old h3
    clear f2 h3 a0 a1 a2 a3 a4 a5
    obtain ⟨a0, a1, a2, a3, a4, a5⟩ := f3.ba.six
    go_wp2_with fail
    refine (key_no c _ hm2).mono ?_
    rintro r w4 ⟨rfl, h4⟩
    have f4 := f3.old h4
    clear f3 h4 a0 a1 a2 a3 a4 a5
    obtain ⟨a0, a1, a2, a3, a4, a5⟩ := f4.ba.six
    go_wp2_with fail
    refine (may_any c _).mono ?_
    rintro r w5 ⟨rfl, h5⟩
    have f5 := f4.old h5
    clear f4 h5 a0 a1 a2 a3 a4 a5
    rw [hm2]
    go_wp2
    go_ret
    exact ⟨rfl, f5.od⟩

set_option maxRecDepth 100000 in
theorem cellBack_lifted (os : Os) (started : os.Started) (H : Type) (enc : TypeId × Value → H) :
    ReturnsInHanded {} Try.checked os 7 .any (Rows.cellBackSpec.pre6 enc Try.prog Try.f7 Rows.cellBackRow.domain false) (Rows.cellBackSpec.post enc Try.prog Try.f7 false true false false) := by
  refine returnsInHanded_of_change (C := Try.checked) Try.own started (by kernel_rfl) Try.func7
    (ChangeSpec.witness6 (enc := enc) (C := Try.checked) false ⟨#[], #[.agg zeroCell, .string ByteArray.empty], []⟩ 8 (by kernel_rfl) (by kernel_rfl) (by kernel_rfl) (by kernel_rfl)) ?_
  intro W base args ds gs before hval0 hW hcnd _
  have hval : ∀ (j : Nat) t v, Try.f7.params[j]? = some t → args[j]? = some v → Value.okWide Try.prog W .any base t v := hval0
  have hW' := hW
  obtain ⟨p, q, hA0, hV, rfl, hfz, hnd⟩ := hW
  have hA : DataW.TrodAll enc Try.prog W 0 (fun _ => true) true Try.f7.params.toList args.toList ds p := hA0
  rw [Try.params7] at hA hval
  obtain ⟨v0, v1, d0, d1, p0, p1, rfl, rfl, rfl, h0, h1⟩ := trodAll_two hA
  obtain ⟨rfl, rfl⟩ := trodVars_none hV
  have hlt : ∀ x ∈ p0 ++ (p1), x.block < W.heap.size := fun x hx => hW'.lt x (by simpa using hx)
  have k0 := h0
  have k1 := h1
  obtain ⟨a0, rfl, o0, -⟩ := open_cel (hval 0 24 v0 rfl rfl) h0
  obtain ⟨a1, rfl, o1⟩ := open_str (hval 1 9 v1 rfl rfl) h1
  clear hA0 hval0
  refine (law_back a0 a1 o0 W).mono fun e W' ⟨he, hb⟩ => ?_
  subst he
  refine ⟨_, rfl, _, _, _, [], p0 ++ (p1), [], hW', trodAll_mk1 (shut_bool Try.underlying4 _), ?_, rfl, hb.frame _, fun h => by cases h⟩
  have r0 := Below.trod Try.laidOut (by kernel_rfl) (of_decide_eq_true (by kernel_rfl)) k0 hb (fun x hx => hlt x (by simp [hx]))
  have r1 := Below.trod Try.laidOut (by kernel_rfl) (of_decide_eq_true (by kernel_rfl)) k1 hb (fun x hx => hlt x (by simp [hx]))
  exact trodAll_mk2 r0 r1

theorem cellBack_holds : Rows.CellBackSaid :=
  OpenClaim.holds_of_wide 7 Try.f7 rfl rfl rfl rfl rfl rfl rfl ⟨rfl, rfl, rfl, rfl, rfl⟩ rfl rfl rfl rfl rfl (by kernel_rfl) Try.func7 (by kernel_rfl)
    (of_decide_eq_true (by kernel_rfl)) (by unfold Func.isWrapper; first | (rw [if_pos (by decide +kernel)]; kernel_rfl) | (rw [if_neg (by decide +kernel)]; exact ⟨rfl, rfl⟩))
    (fun os started H enc _ => cellBack_lifted os started H enc)
#print axioms cellBack_holds
end Go.Proofs.Ythdpiagnjakjiaa
