/-
  CellKeys: whatever cell and whatever text come in, the law answers true, and leaves all as it was. No conditions.
-/
import Derived.Test.YthdpiagnjakjiaaRefKey
import Derived.Test.YthdpiagnjakjiaaShort
namespace Go.Proofs.Ythdpiagnjakjiaa
open Go.ChangeShapes Go.WideShapes Go.ChangeAt Go.RowKit Go.Joins Go.Deep

theorem eqB_self (c : Cel) : eqB c c = true := (eqB_iff c c).2 rfl
theorem keys_held {w W : World} {c x : Cel} {gX gY : Nat} (h : F1 w W c ∧ Bk W gX 24 (cells x) ∧ Bk W gY 24 (cells x)) : (F1 w W c ∧ Bk W gX 24 (cells x) ∧ Bk W gY 24 (cells x)) ∧ W.cell? ⟨w.heap.size, 0, none⟩ = some (.string (B c.row)) ∧ W.cell? ⟨w.heap.size, 1, none⟩ = some (.string (B c.col)) ∧ W.cell? ⟨w.heap.size, 2, none⟩ = some (.int .u64 c.ts) ∧ W.cell? ⟨w.heap.size, 3, none⟩ = some (.int .u64 c.seq) ∧ W.cell? ⟨w.heap.size, 4, none⟩ = some (.bool c.del) ∧ W.cell? ⟨w.heap.size, 5, none⟩ = some (.string (B c.val)) ∧ W.cell? ⟨gX, 0, none⟩ = some (.string (B x.row)) ∧ W.cell? ⟨gX, 1, none⟩ = some (.string (B x.col)) ∧ W.cell? ⟨gX, 2, none⟩ = some (.int .u64 x.ts) ∧ W.cell? ⟨gX, 3, none⟩ = some (.int .u64 x.seq) ∧ W.cell? ⟨gX, 4, none⟩ = some (.bool x.del) ∧ W.cell? ⟨gX, 5, none⟩ = some (.string (B x.val)) ∧ W.cell? ⟨gY, 0, none⟩ = some (.string (B x.row)) ∧ W.cell? ⟨gY, 1, none⟩ = some (.string (B x.col)) ∧ W.cell? ⟨gY, 2, none⟩ = some (.int .u64 x.ts) ∧ W.cell? ⟨gY, 3, none⟩ = some (.int .u64 x.seq) ∧ W.cell? ⟨gY, 4, none⟩ = some (.bool x.del) ∧ W.cell? ⟨gY, 5, none⟩ = some (.string (B x.val)) := by
  obtain ⟨a0, a1, a2, a3, a4, a5⟩ := h.1.ba.six
  obtain ⟨b0, b1, b2, b3, b4, b5⟩ := h.2.1.six
  obtain ⟨d0, d1, d2, d3, d4, d5⟩ := h.2.2.six
  exact ⟨h, a0, a1, a2, a3, a4, a5, b0, b1, b2, b3, b4, b5, d0, d1, d2, d3, d4, d5⟩
theorem keys_old {w W W' : World} {c x : Cel} {gX gY : Nat} (h : F1 w W c ∧ Bk W gX 24 (cells x) ∧ Bk W gY 24 (cells x)) (k : Old W W') : F1 w W' c ∧ Bk W' gX 24 (cells x) ∧ Bk W' gY 24 (cells x) :=
  ⟨h.1.old k, h.2.1.old k, h.2.2.old k⟩
/-- What FromKey answers is a cell and a number. -/
theorem fromV_form (s : List UInt8) : ∃ (x : Cel) (e : Int), fromV s = .tuple #[cv x, .int .i64 e] := by
  unfold fromV
  cases fromK s with
  | none => exact ⟨⟨[], [], 0, 0, false, []⟩, 1, rfl⟩
  | some c => exact ⟨c, 0, rfl⟩
theorem key_at (c : Cel) (w : World) (hok : c.ok) : Calls Try.prog 23 #[cv c] w fun e w' => e = .returned (.string (B (rkeyB c))) ∧ Old w w' := by
  cases hm : mayB c
  · rw [show rkeyB c = [] by simp [rkeyB, hm]]; exact key_no c w hm
  · rw [show rkeyB c = key c by simp [rkeyB, hm]]; exact key_yes c w hm hok

set_option maxRecDepth 100000 in
set_option maxHeartbeats 4000000 in
theorem law_keys (c : Cel) (s : List UInt8) (hok : c.ok) (w : World) :
    Calls Try.prog 4 #[cv c, .string (B s)] w fun e w' => e = .returned (.bool true) ∧ Old w w' := by
  have f0 := F1.new w c
  by_cases hl : s.length ≤ 300
  case neg =>
    have hI : decide ((300 : Int) < s.length) = true := by simp; omega
    go_enter Try.func4, Try.ntmps4
    go_wp2_with fail
    refine (shown_any _).mono ?_
    rintro r w2 ⟨rfl, h2⟩
    go_wp2
    go_ret
    exact ⟨rfl, f0.od.tr h2⟩
  have hI : decide ((300 : Int) < s.length) = false := by simp; omega
  go_enter Try.func4, Try.ntmps4
  go_wp2_with fail
  refine (bounded_any c _).mono ?_
  rintro r w1 ⟨rfl, h1⟩
  have f1 := f0.old h1
  clear f0 h1
  cases hbd : boundedB c
  · go_wp2_with fail
    refine (shown_any _).mono ?_
    rintro r w2 ⟨rfl, h2⟩
    go_wp2
    go_ret
    exact ⟨rfl, f1.od.tr h2⟩
  go_wp2_with fail
  refine (shown_any _).mono ?_
  rintro r w2 ⟨rfl, h2⟩
  have f2 := f1.old h2
  clear f1 h2 hI
  obtain ⟨x, e, hx⟩ := fromV_form s
  have HX := Lib.hid hx
  clear hx
  go_wp2_with fail
  refine (fromKey_any s _ (by omega)).mono ?_
  rintro r w3 ⟨rfl, h3⟩
  have f3 := f2.old h3
  clear f2 h3
  rw [HX.out]
  go_upto_region 4 with (fail)
  have bX := new_bk w3 24 (cells x)
  have f4 := f3.old (old_alloc w3 (.cells (cells x) 24))
  generalize w3.alloc (.cells (cells x) 24) = w4 at *
  generalize w3.heap.size = gX at *
  clear f3
  go_wp2_with fail
  refine (rfromKey_any s _ (by omega)).mono ?_
  rintro r w5 ⟨rfl, h5⟩
  have f5 := f4.old h5
  have bX := bX.old h5
  clear f4 h5
  rw [HX.out]
  go_upto_region 5 with (fail)
  have bY := new_bk w5 24 (cells x)
  have bX := bX.alloc (.cells (cells x) 24)
  have f6 := f5.old (old_alloc w5 (.cells (cells x) 24))
  generalize w5.alloc (.cells (cells x) 24) = w6 at *
  generalize w5.heap.size = gY at *
  clear f5
  have f7 : F1 w w6 c ∧ Bk w6 gX 24 (cells x) ∧ Bk w6 gY 24 (cells x) := ⟨f6, bX, bY⟩
  have e1 : ∀ W, (binOp .eql 24 (cv x) (cv x)).run Try.prog W = .ok (.bool true) W := fun W => by rw [eqlCell, eqB_self]
  have c1 := Lib.hid (fun W => key_at c W hok)
  have c2 := Lib.hid (fun W => rkey_any c W hok)
  clear hok bX bY f6 hl hbd
  generalize rkeyB c = kk at *
  go_region_held3 (fun W => (F1 w W c ∧ Bk W gX 24 (cells x) ∧ Bk W gY 24 (cells x)) ∧ W.cell? ⟨w.heap.size, 0, none⟩ = some (.string (B c.row)) ∧ W.cell? ⟨w.heap.size, 1, none⟩ = some (.string (B c.col)) ∧ W.cell? ⟨w.heap.size, 2, none⟩ = some (.int .u64 c.ts) ∧ W.cell? ⟨w.heap.size, 3, none⟩ = some (.int .u64 c.seq) ∧ W.cell? ⟨w.heap.size, 4, none⟩ = some (.bool c.del) ∧ W.cell? ⟨w.heap.size, 5, none⟩ = some (.string (B c.val)) ∧ W.cell? ⟨gX, 0, none⟩ = some (.string (B x.row)) ∧ W.cell? ⟨gX, 1, none⟩ = some (.string (B x.col)) ∧ W.cell? ⟨gX, 2, none⟩ = some (.int .u64 x.ts) ∧ W.cell? ⟨gX, 3, none⟩ = some (.int .u64 x.seq) ∧ W.cell? ⟨gX, 4, none⟩ = some (.bool x.del) ∧ W.cell? ⟨gX, 5, none⟩ = some (.string (B x.val)) ∧ W.cell? ⟨gY, 0, none⟩ = some (.string (B x.row)) ∧ W.cell? ⟨gY, 1, none⟩ = some (.string (B x.col)) ∧ W.cell? ⟨gY, 2, none⟩ = some (.int .u64 x.ts) ∧ W.cell? ⟨gY, 3, none⟩ = some (.int .u64 x.seq) ∧ W.cell? ⟨gY, 4, none⟩ = some (.bool x.del) ∧ W.cell? ⟨gY, 5, none⟩ = some (.string (B x.val))) (first | exact keys_held (keys_old (And.left (by assumption)) (by assumption)) | exact keys_held (keys_old f7 (Old.re _).dr) | exact keys_held (And.left (by assumption)))
    (first
      | (go_at_call 23; with_reducible refine (c1.out _).mono ?_; rintro r w20 ⟨rfl, h20⟩)
      | (go_at_call 24; with_reducible refine (c2.out _).mono ?_; rintro r w21 ⟨rfl, h21⟩))
  have f9 : F1 w _ c ∧ Bk _ gX 24 (cells x) ∧ Bk _ gY 24 (cells x) := And.left (by assumption)
  go_wp2
  go_ret
  exact ⟨rfl, f9.1.od⟩

set_option maxRecDepth 100000 in
theorem cellKeys_lifted (os : Os) (started : os.Started) (H : Type) (enc : TypeId × Value → H) :
    ReturnsInHanded {} Try.checked os 4 .any (Rows.cellKeysSpec.pre6 enc Try.prog Try.f4 Rows.cellKeysRow.domain false) (Rows.cellKeysSpec.post enc Try.prog Try.f4 false true false false) := by
  refine returnsInHanded_of_change (C := Try.checked) Try.own started (by kernel_rfl) Try.func4
    (ChangeSpec.witness6 (enc := enc) (C := Try.checked) false ⟨#[], #[.agg zeroCell, .string ByteArray.empty], []⟩ 8 (by kernel_rfl) (by kernel_rfl) (by kernel_rfl) (by kernel_rfl)) ?_
  intro W base args ds gs before hval0 hW hcnd _
  have hval : ∀ (j : Nat) t v, Try.f4.params[j]? = some t → args[j]? = some v → Value.okWide Try.prog W .any base t v := hval0
  have hW' := hW
  obtain ⟨p, q, hA0, hV, rfl, hfz, hnd⟩ := hW
  have hA : DataW.TrodAll enc Try.prog W 0 (fun _ => true) true Try.f4.params.toList args.toList ds p := hA0
  rw [Try.params4] at hA hval
  obtain ⟨v0, v1, d0, d1, p0, p1, rfl, rfl, rfl, h0, h1⟩ := trodAll_two hA
  obtain ⟨rfl, rfl⟩ := trodVars_none hV
  have hlt : ∀ x ∈ p0 ++ (p1), x.block < W.heap.size := fun x hx => hW'.lt x (by simpa using hx)
  have k0 := h0
  have k1 := h1
  obtain ⟨a0, rfl, o0, -⟩ := open_cel (hval 0 24 v0 rfl rfl) h0
  obtain ⟨a1, rfl, o1⟩ := open_str (hval 1 9 v1 rfl rfl) h1
  clear hA0 hval0
  refine (law_keys a0 a1 o0 W).mono fun e W' ⟨he, hb⟩ => ?_
  subst he
  refine ⟨_, rfl, _, _, _, [], p0 ++ (p1), [], hW', trodAll_mk1 (shut_bool Try.underlying4 _), ?_, rfl, hb.frame _, fun h => by cases h⟩
  have r0 := Below.trod Try.laidOut (by kernel_rfl) (of_decide_eq_true (by kernel_rfl)) k0 hb (fun x hx => hlt x (by simp [hx]))
  have r1 := Below.trod Try.laidOut (by kernel_rfl) (of_decide_eq_true (by kernel_rfl)) k1 hb (fun x hx => hlt x (by simp [hx]))
  exact trodAll_mk2 r0 r1

theorem cellKeys_holds : Rows.CellKeysSaid :=
  OpenClaim.holds_of_wide 4 Try.f4 rfl rfl rfl rfl rfl rfl rfl ⟨rfl, rfl, rfl, rfl, rfl⟩ rfl rfl rfl rfl rfl (by kernel_rfl) Try.func4 (by kernel_rfl)
    (of_decide_eq_true (by kernel_rfl)) (by unfold Func.isWrapper; first | (rw [if_pos (by decide +kernel)]; kernel_rfl) | (rw [if_neg (by decide +kernel)]; exact ⟨rfl, rfl⟩))
    (fun os started H enc _ => cellKeys_lifted os started H enc)
#print axioms cellKeys_holds
end Go.Proofs.Ythdpiagnjakjiaa
