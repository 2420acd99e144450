/-
  RunsTwice: whatever list of items comes in, the law answers true, and leaves all as it was. No conditions.
-/
import Derived.Test.YtkejcgfablnpjaaRLft
namespace Go.Proofs.Ytkejcgfablnpjaa
open Go.ChangeShapes Go.WideShapes Go.ChangeAt Go.RowKit Go.Joins Go.Deep

theorem OwnE.low {e : TypeId} {w : World} {base : Nat} {v : Value} {l : List Itm} (h : OwnE e w base v l) (base' : Nat) (hb : base' ≤ base) : OwnE e w base' v l := by
  refine ⟨h.1, ?_⟩
  rcases h.2 with h1 | ⟨gg, cap, cur, hv, hbb, rest⟩
  · exact .inl h1
  · exact .inr ⟨gg, cap, cur, hv, Nat.le_trans hb hbb, rest⟩
/-- append of items, guarded. -/
theorem wp_itsG {ops : Array Oper} {rest : List Oper} {op : Oper} {a : Act} {Q : Exit → Act → World → Prop} {W0 w : World} (hwt : Region.wanted op (yielded ops a.tmps) = true) (s x : Operand) (t e : TypeId) (ht : Try.prog.underlying t = some (.slice e)) (hi : (Try.prog.info? e).map (fun i => (i.zero, i.size, i.bytes)) = some (some (.agg zeroItem), 7, 80))
    (ho : op.op = .call { callee := .builtin .append, args := #[s, x], argTypes := #[t, t] })
    (hW : Old W0 w) (v : Value) (xs news : List Itm) (hs : a.eval s = v) (hown : OwnE e w W0.heap.size v xs) (xv : Value) (hx : a.eval x = xv) (hnews : Itms w xv news) (hlen : xs.length + news.length ≤ 100000)
    (h : ∀ v' w', OwnE e w' W0.heap.size v' (xs ++ news) → Old W0 w' → wpList Try.prog ops Q rest (a.put op.dst v') w') : wpList Try.prog ops Q (op :: rest) a w := by
  obtain ⟨v', w', hr, h2, h3, h4⟩ := run_its t e ht hi hW hown hnews hlen op.type
  refine wpList_step fun K hK => ?_
  rw [if_pos hwt]
  unfold Oper.wp execOp
  simp only [ho, resolve, invoke, builtin, Sem.run_bind, Sem.run_pure, Result.andThen_ok, List.map_toArray, List.map_cons, List.map_nil, hs, hx, hr]
  exact hK _ _ (h v' w' h2 h3)
set_option maxRecDepth 100000 in
set_option maxHeartbeats 4000000 in
theorem law_twice (v : Value) (l : List Itm) (w : World) (h : Itms w v l) (hl : l.length * 72 ≤ 140737488355328) :
    Calls Try.prog 6 #[v] w fun e w' => e = .returned (.bool true) ∧ Old w w' := by
  have hml : (l.map (·.c)).length ≤ maxLen := by simp; unfold maxLen; omega
  go_enter Try.func6, Try.ntmps6
  go_wp2_with fail
  refine (cells_any _ _ l h hl).mono ?_
  rintro e w1 ⟨u1, rfl, o1, c1⟩
  go_wp2_with fail
  refine (bounded_any _ _ _ c1 hml).mono ?_
  rintro e w1' ⟨rfl, rfl⟩
  cases hb : boundedB (l.map (·.c)) with
  | false =>
    clear c1
    go_wp2_with fail
    refine (shown_any _).mono ?_
    rintro e w2 ⟨rfl, o2⟩
    go_wp2
    go_ret
    exact ⟨rfl, o1.tr o2⟩
  | true =>
    have hl2 : l.length ≤ 80 := by have := bounded_len hb; simpa using this
    clear hb c1 hml hl
    go_wp2_with fail
    refine (shown_any _).mono ?_
    rintro e w2 ⟨rfl, o2⟩
    have o3 := o1.tr o2
    have h3 := h.old o3
    clear h o1 o2
    go_wp2_with fail
    refine (resolve_any _ _ l h3 (by omega)).mono ?_
    rintro e w3 ⟨ux, x, rfl, r1, r2, o4, hx⟩
    have hx := hx.its
    have o5 := o3.tr o4
    clear h3 o3 o4
    obtain ⟨Ax, cx, rfl, hcx⟩ := hx.form
    go_wp2_with fail
    refine (resolve_any _ _ x hx (by omega)).mono ?_
    rintro e w4 ⟨uy, y, rfl, q1, q2, o6, hy⟩
    have hxy := q1.uniq (IsRes.self r1.1)
    subst hxy
    have hx := hx.old o6
    have o7 := o5.tr o6
    clear o5 o6
    go_wp2_with fail
    refine (its_any _ _ y hy.its (by omega)).mono ?_
    rintro e w5 ⟨ui, rfl, o8, hi⟩
    have hx := hx.old o8
    have o9 := o7.tr o8
    clear o7 o8 hy
    go_wp2_with fail
    refine (its_any _ _ y hx (by omega)).mono ?_
    rintro e w6 ⟨uj, rfl, o10, hj⟩
    have hx := hx.old o10
    have hi := hi.its.old o10
    have o11 := o9.tr o10
    clear o9 o10
    go_wp2_with fail
    refine (rsameL_any _ _ _ y hi hj.its (by omega)).mono ?_
    rintro e w7 ⟨rfl, o12⟩
    have hx := hx.old o12
    have o13 := o11.tr o12
    clear o11 o12 hi hj
    go_wp2_with (at_builtin; refine wp_itsG (by rfl) (.tmp 22) (.tmp 23) 35 45 Try.underlying35 Try.infoItem rfl (W0 := w7) (old_alloc _ _) _ [] y rfl (OwnE.empty (new_bk _ _ _) (Nat.le_refl _)) _ rfl (hx.old (old_alloc _ _)) (by simp; omega) ?_; intro v8 w8 n8 o14; refine Hid.out ?_)
    rw [List.nil_append] at n8
    refine Lib.hid ?_
    go_wp2_with (at_builtin; refine wp_itsG (by rfl) (.tmp 24) (.tmp 25) 35 45 Try.underlying35 Try.infoItem rfl (W0 := w7) o14 _ y y rfl n8 _ rfl (hx.old o14) (by omega) ?_; intro v9 w9 n9 o15; refine Hid.out ?_)
    have hx := hx.old o15
    have o16 := o13.tr o15
    clear n8 o14 o13 o15
    refine Lib.hid ?_
    go_wp2_with fail
    refine (resolve_any _ _ (y ++ y) n9.its (by simp; omega)).mono ?_
    rintro e w10 ⟨uz, z, rfl, s1, s2, o17, hz⟩
    have hzy := s1.uniq (IsRes.twice r1.1)
    subst hzy
    have hx := hx.old o17
    have o18 := o16.tr o17
    clear o16 o17 n9
    go_wp2_with fail
    refine (its_any _ _ z hz.its (by omega)).mono ?_
    rintro e w11 ⟨ui, rfl, o19, hi⟩
    have hx := hx.old o19
    have o20 := o18.tr o19
    clear o18 o19 hz
    go_wp2_with fail
    refine (its_any _ _ z hx (by omega)).mono ?_
    rintro e w12 ⟨uj, rfl, o21, hj⟩
    have hi := hi.its.old o21
    have o22 := o20.tr o21
    clear o20 o21
    go_wp2_with fail
    refine (rsameL_any _ _ _ z hi hj.its (by omega)).mono ?_
    rintro e w13 ⟨rfl, o23⟩
    have o24 := o22.tr o23
    clear o22 o23 hi hj hx
    go_wp2
    go_ret
    exact ⟨rfl, o24⟩

set_option maxRecDepth 100000 in
theorem runsTwice_lifted (os : Os) (started : os.Started) (H : Type) (enc : TypeId × Value → H) :
    ReturnsInHanded {} Try.checked os 6 .any (Rows.runsTwiceSpec.pre6 enc Try.prog Try.f6 Rows.runsTwiceRow.domain false) (Rows.runsTwiceSpec.post enc Try.prog Try.f6 false true false false) := by
  refine returnsInHanded_of_change_sized (C := Try.checked) Try.own started (by kernel_rfl) Try.func6
    (ChangeSpec.witness6 (enc := enc) (C := Try.checked) false ⟨#[], #[.slice none 0 0], []⟩ 8 (by kernel_rfl) (by kernel_rfl) (by kernel_rfl) (by kernel_rfl)) ?_
  intro W base args ds gs before hval0 hW hcnd hsz0 _
  have hval : ∀ (j : Nat) t v, Try.f6.params[j]? = some t → args[j]? = some v → Value.okWide Try.prog W .any base t v := hval0
  have hW' := hW
  obtain ⟨p, q, hA0, hV, rfl, hfz, hnd⟩ := hW
  have hA : DataW.TrodAll enc Try.prog W 0 (fun _ => true) true Try.f6.params.toList args.toList ds p := hA0
  have hsz : (DataW.weightsEach Try.prog (Try.f6.params.toList ++ Rows.runsTwiceSpec.plain.varTypes Try.prog) (ds ++ gs)).all (· ≤ reachBytes) = true := hsz0
  rw [Try.params6] at hA hval hsz
  obtain ⟨v0, d0, rfl, rfl, h0⟩ := trodAll_one hA
  obtain ⟨rfl, rfl⟩ := trodVars_none hV
  have hlt : ∀ x ∈ p, x.block < W.heap.size := fun x hx => hW'.lt x (by simpa using hx)
  have k0 := h0
  obtain ⟨a0, o0, m0, x0⟩ := open_its (hval 0 35 v0 rfl rfl) h0
  have b0 : a0.length * 72 ≤ 140737488355328 := by
    rcases x0 with rfl | ⟨es, sp, rfl, hes⟩
    · simp
    · have := sized_slice hsz (j := 0) (t := 35) (e := 45) rfl rfl Try.underlying35
      rw [show Try.prog.bytesOf 45 = 80 by kernel_rfl] at this
      unfold reachBytes at this
      omega
  clear hA0 hval0 hsz0
  refine (law_twice _ a0 W o0 b0).mono fun e W' ⟨he, hb⟩ => ?_
  subst he
  refine ⟨_, rfl, _, _, _, [], p, [], hW', trodAll_mk1 (shut_bool Try.underlying4 _), ?_, rfl, hb.frame _, fun h => by cases h⟩
  have r0 := Below.trod Try.laidOut (by kernel_rfl) (of_decide_eq_true (by kernel_rfl)) k0 hb (fun x hx => hlt x (by simp [hx]))
  exact trodAll_mk1 r0

theorem runsTwice_holds : Rows.RunsTwiceSaid :=
  OpenClaim.holds_of_wide 6 Try.f6 rfl rfl rfl rfl rfl rfl rfl ⟨rfl, rfl, rfl, rfl, rfl⟩ rfl rfl rfl rfl rfl (by kernel_rfl) Try.func6 (by kernel_rfl)
    (of_decide_eq_true (by kernel_rfl)) (by unfold Func.isWrapper; first | (rw [if_pos (by decide +kernel)]; kernel_rfl) | (rw [if_neg (by decide +kernel)]; exact ⟨rfl, rfl⟩))
    (fun os started H enc _ => runsTwice_lifted os started H enc)
#print axioms runsTwice_holds
end Go.Proofs.Ytkejcgfablnpjaa
