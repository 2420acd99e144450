/-
  BlockErrors: whatever list of cells, and whatever number, come in, the law answers true, and leaves all as it was. No conditions.
-/
import Derived.Test.YtdlendmbdikflaaLift
import Derived.Deep.RegionHeldLaw
namespace Go.Proofs.Ytdlendmbdikflaa
open Go.ChangeShapes Go.WideShapes Go.ChangeAt Go.RowKit Go.Joins Go.Deep

theorem own_empty {w : World} {base g : Nat} (h : Bk w g 39 #[]) (hb : base ≤ g) : OwnC w base (.slice (some ⟨g, 0, none⟩) 0 0) [] :=
  ⟨rfl, .inr ⟨g, 0, #[], rfl, hb, h, Nat.le_refl _, by simp, rfl, rfl⟩⟩
theorem flat_one (l : List Cel) : ∀ u ∈ flat l, u.oneCell' = true := by
  intro u hu
  obtain ⟨c, -, hc⟩ := List.mem_flatMap.1 hu
  simp at hc
  rcases hc with rfl | rfl | rfl | rfl | rfl | rfl <;> rfl
theorem cels_news {w : World} {b off : Nat} {l : List Cel} (h : CelsAt w b off l) : ∀ j u, (flat l)[j]? = some u → w.cell? ((⟨b, off, none⟩ : Addr).add j) = some u := by
  intro j u hu
  rw [Addr.add_lit]
  have hj : j < l.length * 6 := by rw [← flat_len]; exact (List.getElem?_eq_some_iff.1 hu).1
  have hi : j / 6 < l.length := by omega
  have e := flat_at l (j / 6) (j % 6) l[j / 6] (List.getElem?_eq_getElem hi) (by omega)
  rw [show j / 6 * 6 + j % 6 = j by omega, hu] at e
  have hx := (h.at_ (j / 6) hi).held
  generalize l[j / 6] = c at *
  have e6 : j % 6 = 0 ∨ j % 6 = 1 ∨ j % 6 = 2 ∨ j % 6 = 3 ∨ j % 6 = 4 ∨ j % 6 = 5 := by omega
  obtain ⟨x0, x1, x2, x3, x4, x5⟩ := hx
  rcases e6 with g | g | g | g | g | g
  · rw [g] at e; rw [show off + j = off + j / 6 * 6 by omega, x0]; exact e.symm
  · rw [g] at e; rw [show off + j = off + j / 6 * 6 + 1 by omega, x1]; exact e.symm
  · rw [g] at e; rw [show off + j = off + j / 6 * 6 + 2 by omega, x2]; exact e.symm
  · rw [g] at e; rw [show off + j = off + j / 6 * 6 + 3 by omega, x3]; exact e.symm
  · rw [g] at e; rw [show off + j = off + j / 6 * 6 + 4 by omega, x4]; exact e.symm
  · rw [g] at e; rw [show off + j = off + j / 6 * 6 + 5 by omega, x5]; exact e.symm
theorem flat_app (l m : List Cel) : flat (l ++ m) = flat l ++ flat m := by simp [flat]

/-- append(v, x..) of cells: what comes of it. -/
theorem run_cels {W0 w : World} {v : Value} {xs news : List Cel} (o : Old W0 w) (hown : OwnC w W0.heap.size v xs) (b off m c : Nat) (hm : m = news.length) (hnews : CelsAt w b off news) (hlen : xs.length + news.length ≤ 100000) (ty : TypeId) :
    ∃ v' w', (Builtin.append_ #[22, 22] ty #[v, .slice (some ⟨b, off, none⟩) m c]).run Try.prog w = .ok v' w' ∧ OwnC w' W0.heap.size v' (xs ++ news) ∧ Old W0 w' ∧ (∀ g t cs, Bk w g t cs → some g ≠ v.ownBlock → Bk w' g t cs) := by
  obtain ⟨i0, hi, hz0, hz1, hz2⟩ := info_parts Try.infoCell
  subst hm
  obtain ⟨v', w', hr, h2, h3, -, -⟩ := run_append_own_at (P := Try.prog) w W0.heap.size 22 ty 39 i0 (.agg zeroCell) 6 72 Try.underlying22 hi hz0 hz1 hz2 rfl (by decide) v xs.length (flat xs) hown ⟨b, off, none⟩ news.length c (flat news) (flat_len _) (cels_news hnews) (flat_one _) (by unfold maxLen; omega) (by omega) o.size
  refine ⟨v', w', hr, ?_, o.trans ((Below.refl _ _).grown h3 o.size (fun k hk => (World.ownsRow.lt hown k hk).1)), fun g t cs hb hne => hb.grown h3 hne⟩
  unfold OwnC
  rw [flat_app, List.length_append]
  exact h2
theorem step_cels {ops : Array Oper} {o : Oper} {a : Act} {K : Act → World → Prop} {Q : Exit → Act → World → Prop} {E : Prop} {W0 w : World} (hgd : o.guard = none) (s x : Operand)
    (ho : o.op = .call { callee := .builtin .append, args := #[s, x], argTypes := #[22, 22] })
    (hW : Old W0 w) (v : Value) (xs news : List Cel) (hs : a.eval s = v) (hown : OwnC w W0.heap.size v xs) (b off m c : Nat) (hx : a.eval x = .slice (some ⟨b, off, none⟩) m c) (hm : m = news.length) (hnews : CelsAt w b off news) (hlen : xs.length + news.length ≤ 100000)
    (h : ∀ v' w', OwnC w' W0.heap.size v' (xs ++ news) → Old W0 w' → (∀ g t cs, Bk w g t cs → some g ≠ v.ownBlock → Bk w' g t cs) → K (a.put o.dst v') w') :
    if Region.wanted o (yielded ops a.tmps) = true then Oper.wp Try.prog o a w K Q else E := by
  obtain ⟨v', w', hr, h2, h3, h4⟩ := run_cels hW hown b off m c hm hnews hlen o.type
  have hw : Region.wanted o (yielded ops a.tmps) = true := by simp [Region.wanted, hgd]
  rw [if_pos hw]
  unfold Oper.wp execOp
  simp only [ho, resolve, invoke, builtin, Sem.run_bind, Sem.run_pure, Result.andThen_ok, List.map_toArray, List.map_cons, List.map_nil, hs, hx, hr]
  exact h v' w' h2 h3 h4
theorem wp_cels {ops : Array Oper} {rest : List Oper} {o : Oper} {a : Act} {Q : Exit → Act → World → Prop} {W0 w : World} (hgd : o.guard = none) (s x : Operand)
    (ho : o.op = .call { callee := .builtin .append, args := #[s, x], argTypes := #[22, 22] })
    (hW : Old W0 w) (v : Value) (xs news : List Cel) (hs : a.eval s = v) (hown : OwnC w W0.heap.size v xs) (b off m c : Nat) (hx : a.eval x = .slice (some ⟨b, off, none⟩) m c) (hm : m = news.length) (hnews : CelsAt w b off news) (hlen : xs.length + news.length ≤ 100000)
    (h : ∀ v' w', OwnC w' W0.heap.size v' (xs ++ news) → Old W0 w' → wpList Try.prog ops Q rest (a.put o.dst v') w') : wpList Try.prog ops Q (o :: rest) a w := by
  obtain ⟨v', w', hr, h2, h3, h4⟩ := run_cels hW hown b off m c hm hnews hlen o.type
  refine wpList_plain hgd fun K hK => ?_
  unfold Oper.wp execOp
  simp only [ho, resolve, invoke, builtin, Sem.run_bind, Sem.run_pure, Result.andThen_ok, List.map_toArray, List.map_cons, List.map_nil, hs, hx, hr]
  exact hK _ _ (h v' w' h2 h3)

theorem OwnC.form2 {w : World} {base : Nat} {v : Value} {l : List Cel} (h : OwnC w base v l) : ∃ A cap, v = .slice A l.length cap := by
  rcases h.2 with ⟨rfl, h0⟩ | ⟨g', cap, cur, rfl, _⟩
  · exact ⟨none, 0, by rw [h0]⟩
  · exact ⟨_, _, rfl⟩
theorem keepS {W W' : World} {b o : Nat} {c : Cel} (hx : At6 W b o c) (k : Old W W') : Old W W' ∧ W'.cell? ⟨b, o, none⟩ = some (.string (B c.row)) ∧ W'.cell? ⟨b, o + 1, none⟩ = some (.string (B c.col)) ∧ W'.cell? ⟨b, o + 2, none⟩ = some (.int .u64 c.ts) ∧ W'.cell? ⟨b, o + 3, none⟩ = some (.int .u64 c.seq) ∧ W'.cell? ⟨b, o + 4, none⟩ = some (.bool c.del) ∧ W'.cell? ⟨b, o + 5, none⟩ = some (.string (B c.val)) := ⟨k, (hx.old k).held⟩
theorem CelsAt.take_ {w : World} {b off : Nat} {l : List Cel} (h : CelsAt w b off l) (k : Nat) : CelsAt w b off (l.take k) := fun i c hc => by
  rw [List.getElem?_take] at hc
  split at hc
  · exact h i c hc
  · cases hc
theorem CelsAt.drop_ {w : World} {b off : Nat} {l : List Cel} (h : CelsAt w b off l) (k : Nat) : CelsAt w b (off + k * 6) (l.drop k) := fun i c hc => by
  rw [List.getElem?_drop] at hc
  have := h (k + i) c hc
  rwa [show off + k * 6 + i * 6 = off + (k + i) * 6 by omega]
theorem cels_one {w : World} {g : Nat} {c : Cel} (h : Bk w g 39 (cells c)) : CelsAt w g 0 [c] := fun i d hd => by
  cases i with
  | zero =>
    simp at hd
    subst hd
    exact ⟨h.cell 0, h.cell 1, h.cell 2, h.cell 3, h.cell 4, h.cell 5⟩
  | succ i => simp at hd

/-- A cell without a row. -/
def rowless (c : Cel) : Cel := ⟨[], c.col, c.ts, c.seq, c.del, c.val⟩
theorem cels_set {w : World} {g off k : Nat} {l : List Cel} (h : CelsAt w g off l) (hk : k < l.length) : CelsAt (w.setCell ⟨g, off + k * 6, none⟩ (.string ⟨#[]⟩)) g off (l.set k (rowless l[k])) := by
  intro i c hc
  by_cases hik : i = k
  · subst hik
    rw [List.getElem?_set_self hk] at hc
    injection hc with hc
    subst hc
    obtain ⟨x0, x1, x2, x3, x4, x5⟩ := (h.at_ i hk).held
    have f : ∀ j, 0 < j → (w.setCell ⟨g, off + i * 6, none⟩ (.string ⟨#[]⟩)).cell? ⟨g, off + i * 6 + j, none⟩ = w.cell? ⟨g, off + i * 6 + j, none⟩ := fun j hj => World.cell?_setCell_other _ _ _ _ (by intro e; injection e with _ e _; omega)
    refine ⟨World.cell?_setCell_same _ _ _ x0, ?_, ?_, ?_, ?_, ?_⟩
    · rw [f 1 (by omega)]; exact x1
    · rw [f 2 (by omega)]; exact x2
    · rw [f 3 (by omega)]; exact x3
    · rw [f 4 (by omega)]; exact x4
    · rw [f 5 (by omega)]; exact x5
  · rw [List.getElem?_set_ne (fun e => hik e.symm)] at hc
    obtain ⟨x0, x1, x2, x3, x4, x5⟩ := (h i c hc).held
    have f : ∀ j, j < 6 → (w.setCell ⟨g, off + k * 6, none⟩ (.string ⟨#[]⟩)).cell? ⟨g, off + i * 6 + j, none⟩ = w.cell? ⟨g, off + i * 6 + j, none⟩ := fun j hj => World.cell?_setCell_other _ _ _ _ (by intro e; injection e with _ e _; omega)
    refine ⟨?_, ?_, ?_, ?_, ?_, ?_⟩
    · have := f 0 (by omega); rw [Nat.add_zero] at this; rw [this]; exact x0
    · rw [f 1 (by omega)]; exact x1
    · rw [f 2 (by omega)]; exact x2
    · rw [f 3 (by omega)]; exact x3
    · rw [f 4 (by omega)]; exact x4
    · rw [f 5 (by omega)]; exact x5

/-- A cell that is there twice: not a block. -/
theorem rising_twice (xs ys : List Cel) (c : Cel) : rising (xs ++ c :: c :: ys) = false := by
  induction xs with
  | nil => rw [List.nil_append, rising, cmpC_refl]; rfl
  | cons a t ih =>
    cases t with
    | nil => rw [List.cons_append, List.nil_append, rising]; rw [List.nil_append] at ih; rw [ih, Bool.and_false]
    | cons b t => rw [List.cons_append, List.cons_append, rising]; rw [List.cons_append] at ih; rw [ih, Bool.and_false]
theorem err_twice (xs ys : List Cel) (c : Cel) (hm : ∀ d ∈ xs ++ c :: ys, mayB d = true) : errB (xs ++ c :: c :: ys) = if 255 < (xs ++ c :: c :: ys).length then 71 else 40 := by
  unfold errB
  have h1 : (xs ++ c :: c :: ys).all mayB = true := by
    rw [List.all_eq_true]
    intro d hd
    refine hm d ?_
    simp at hd ⊢
    exact hd
  by_cases g : 255 < (xs ++ c :: c :: ys).length
  · rw [if_pos g, if_pos g]
  · rw [if_neg g, if_neg g, h1, rising_twice]
    simp
theorem err_bad (l : List Cel) (k : Nat) (hk : k < l.length) (h : l.length ≤ 255) : errB (l.set k (rowless l[k])) = 1 := by
  unfold errB
  rw [if_neg (by simp; omega), if_pos]
  rw [List.all_eq_false]
  refine ⟨rowless l[k], List.mem_set hk _, ?_⟩
  simp [mayB, rowless]

set_option maxRecDepth 100000 in
set_option maxHeartbeats 8000000 in
theorem law_errors (v : Value) (l : List Cel) (n : Nat) (w : World) (h : Cels w v l) (hok : ∀ c ∈ l, c.ok) (hml : l.length ≤ maxLen) (hcap : ∃ A cap, v = .slice A l.length cap ∧ l.length ≤ cap) (hn : n < 256) :
    Calls Try.prog 8 #[v, .int .u8 n] w fun e w' => e = .returned (.bool true) ∧ Old w w' := by
  go_enter Try.func8, Try.ntmps8
  go_wp2_with fail
  refine (bounded_at v l _ h hml).mono ?_
  rintro e w1 ⟨rfl, rfl⟩
  cases hb : bdL l with
  | false =>
    go_wp2_with (go_at_call 10; refine (shown_any _).mono ?_; rintro e w1 ⟨rfl, k1⟩)
    go_ret
    exact ⟨rfl, k1⟩
  | true =>
    have hl := bdL_len hb
    go_wp2_with fail
    refine (shown_any _).mono ?_
    rintro e w1 ⟨rfl, k1⟩
    go_wp2_with fail
    refine (build_at v l _ (h.old k1) hok (by omega)).mono ?_
    rintro e w2 ⟨rfl, k2⟩
    have o2 := k1.tr k2
    have h2 := h.old o2
    clear k1 k2 h hb
    by_cases he : errB l = 0
    case neg =>
      rw [buildV_no rfl he]
      have hne : (errB l != 0) = true := by simpa using he
      have hne2 : (errB l == 0) = false := by simpa using he
      by_cases h71 : errB l = 71
      · have e71 : (errB l == 71) = true := by simpa using h71
        have hlen : decide ((255 : Int) < (l.length : Int)) = true := by
          unfold errB at h71
          by_cases g : 255 < l.length
          · simp; omega
          · rw [if_neg g] at h71
            split at h71
            · cases h71
            · split at h71 <;> cases h71
        clear h71
        obtain ⟨A, cap, rfl, -⟩ := hcap
        go_wp2
        go_ret
        exact ⟨rfl, o2⟩
      · have e71 : (errB l == 71) = false := by simpa using h71
        have h140 : errB l = 1 ∨ errB l = 40 := by
          unfold errB at *
          by_cases g : 255 < l.length
          · rw [if_pos g] at h71; exact absurd rfl h71
          · rw [if_neg g] at he ⊢
            split
            · exact .inl rfl
            · split
              · exact .inr rfl
              · rename_i g1 g2
                rw [if_neg g1, if_neg g2] at he
                exact absurd rfl he
        obtain ⟨A, cap, rfl, -⟩ := hcap
        rcases h140 with g | g
        · rw [g]
          go_wp2
          go_ret
          exact ⟨rfl, o2⟩
        · rw [g]
          go_wp2
          go_ret
          exact ⟨rfl, o2⟩
    rw [buildV_yes he]
    rcases h2 with ⟨rfl, A, cap, rfl⟩ | ⟨b, off, cap, rfl, hC⟩
    · go_wp2
      go_ret
      exact ⟨rfl, o2⟩
    by_cases hz : l.length = 0
    · have hnil : l = [] := List.eq_nil_of_length_eq_zero hz
      subst hnil
      go_wp2
      go_ret
      exact ⟨rfl, o2⟩
    have hcap2 : l.length ≤ cap := by
      obtain ⟨A, cap', e1, e2⟩ := hcap
      injection e1 with _ _ e3
      omega
    clear hcap
    have hkl : n % l.length < l.length := Nat.mod_lt _ (by omega)
    obtain ⟨e255, hmay, hris⟩ := errB_zero.1 he
    have hx := hC.at_ (n % l.length) hkl
    have hsp : l = l.take (n % l.length) ++ l[n % l.length] :: l.drop (n % l.length + 1) := by rw [← List.drop_eq_getElem_cons hkl, List.take_append_drop]
    have htk : l.take (n % l.length + 1) = l.take (n % l.length) ++ [l[n % l.length]] := List.take_succ_eq_append_getElem hkl
    have ET := Lib.hid (err_twice (l.take (n % l.length)) (l.drop (n % l.length + 1)) l[n % l.length] (by rw [← hsp]; exact hmay))
    have EB := Lib.hid (err_bad l (n % l.length) hkl e255)
    have HS := Lib.hid hsp
    have HT := Lib.hid htk
    have hrem : ((n : Int).tmod (l.length : Int)) = ((n % l.length : Nat) : Int) := by rw [Int.tmod_eq_emod_of_nonneg (by omega)]; rfl
    have hl0 : ((l.length : Int) == 0) = false := by rw [beq_eq_false_iff_ne]; omega
    have hoc := hok _ (List.getElem_mem hkl)
    clear hris he hsp htk hmay
    generalize hcc : l[n % l.length] = c at *
    generalize hkk : n % l.length = k at *
    clear hkk
    have hkc : k + 1 ≤ cap := by omega
    have i1 : ((k : Int) + 1) ≤ (cap : Int) := by omega
    have i2 : ((k : Int) + 1) ≤ (l.length : Int) := by omega
    have i3 : (k : Int) < (l.length : Int) := by omega
    generalize blk l = sB at *
    go_upto_region 7 with (fail)
    have hwk : IntKind.i64.wrap ((k : Int) + 1) = (k : Int) + 1 := by rw [IntKind.wrap_i64]; omega
    have htn : ((k : Int) + 1).toNat = k + 1 := by omega
    have hge0 : (0 : Int) ≤ (k : Int) + 1 := by omega
    have hge1 : (0 : Int) ≤ (k : Int) := by omega
    obtain ⟨a0, a1, a2, a3, a4, a5⟩ := hx.held
    obtain ⟨off2, hif, hC2⟩ : ∃ off2 : Nat, (if cap = k + 1 then some (⟨b, off, none⟩ : Addr) else some ⟨b, off + (k + 1) * 6, none⟩) = some ⟨b, off2, none⟩ ∧ CelsAt w2 b off2 (l.drop (k + 1)) := by
      by_cases g : cap = k + 1
      · refine ⟨off, if_pos g, ?_⟩
        rw [List.drop_of_length_le (by omega)]
        intro i c hc
        simp at hc
      · exact ⟨off + (k + 1) * 6, if_neg g, hC.drop_ (k + 1)⟩
    go_region_held_law (fun W => Old w2 W ∧ W.cell? ⟨b, off + k * 6, none⟩ = some (.string (B c.row)) ∧ W.cell? ⟨b, off + k * 6 + 1, none⟩ = some (.string (B c.col)) ∧ W.cell? ⟨b, off + k * 6 + 2, none⟩ = some (.int .u64 c.ts) ∧ W.cell? ⟨b, off + k * 6 + 3, none⟩ = some (.int .u64 c.seq) ∧ W.cell? ⟨b, off + k * 6 + 4, none⟩ = some (.bool c.del) ∧ W.cell? ⟨b, off + k * 6 + 5, none⟩ = some (.string (B c.val))) (exact keepS hx (by repeat (first | with_reducible exact Old.re _ | with_reducible assumption | with_reducible apply Old.al | with_reducible apply Old.dr | with_reducible apply Old.dn)))
      (first
        | (refine step_cels rfl (.tmp 58) (.tmp 62) rfl (W0 := w2) (by repeat (first | with_reducible exact Old.re _ | with_reducible assumption | with_reducible apply Old.al | with_reducible apply Old.dr | with_reducible apply Old.dn)) _ [] (l.take (k + 1)) rfl (own_empty (by first | with_reducible exact (new_bk _ _ _).drew | with_reducible exact ((new_bk _ _ _).alloc _).drew | with_reducible exact (new_bk1 _ _ _ _).drew) (by simp)) b off (k + 1) _ rfl (by simp; omega) ((hC.take_ (k + 1)).old (by repeat (first | with_reducible exact Old.re _ | with_reducible assumption | with_reducible apply Old.al | with_reducible apply Old.dr | with_reducible apply Old.dn))) (by simp; omega) ?_; intro v3 w3 n3 o3 hk3; rw [List.nil_append] at n3)
        | (refine step_cels rfl (.tmp 63) (.tmp 68) rfl (W0 := w2) (by repeat (first | with_reducible exact Old.re _ | with_reducible assumption | with_reducible apply Old.al | with_reducible apply Old.dr | with_reducible apply Old.dn)) v3 (l.take (k + 1)) [c] rfl (by first | with_reducible exact n3 | with_reducible exact n3.old (old_alloc _ _)) _ 0 1 1 rfl rfl (cels_one (by first | with_reducible exact new_bk _ _ _ | (refine hk3 _ _ _ ?_ (by simp [Act.eval, Value.ownBlock]); first | with_reducible exact (new_bk _ _ _).drew | with_reducible exact ((new_bk _ _ _).alloc _).drew | with_reducible exact (new_bk1 _ _ _ _).drew))) (by simp; omega) ?_; intro v4 w4 n4 o4 hk4)
        | (refine step_cels rfl (.tmp 69) (.tmp 73) rfl (W0 := w2) o4 v4 (l.take (k + 1) ++ [c]) (l.drop (k + 1)) rfl n4 b off2 (l.length - (k + 1)) _ rfl (by simp) (hC2.old o4) (by simp; omega) ?_; intro v5 w5 n5 o5 hk5))
    all_goals clear hk3 hk4 hk5 n3 n4 o3 o4 hwk htn hge0 hge1 hif hC2 a0 a1 a2 a3 a4 a5 i1 i2
    all_goals
      rw [HT.out, List.append_assoc, List.append_assoc] at n5
      simp only [List.cons_append, List.nil_append] at n5
      obtain ⟨A5, cap5, rfl⟩ := n5.form2
      have hTl : (l.take k ++ c :: c :: l.drop (k + 1)).length = l.length + 1 := by simp; omega
      have hTo : ∀ d ∈ l.take k ++ c :: c :: l.drop (k + 1), d.ok := by
        intro d hd
        rcases List.mem_append.1 hd with hd | hd
        · exact hok d (List.mem_of_mem_take hd)
        · rcases List.mem_cons.1 hd with rfl | hd
          · exact hoc
          · rcases List.mem_cons.1 hd with rfl | hd
            · exact hoc
            · exact hok d (List.mem_of_mem_drop hd)
      have hT := n5.cels
      clear n5
      generalize l.take k ++ c :: c :: l.drop (k + 1) = T at *
      obtain ⟨eT, HVT, hfin⟩ : ∃ e : Int, Hid (buildV T = .tuple #[.string ⟨#[]⟩, .int .i64 e]) ∧ (e = 71 ∧ 255 < T.length ∨ e = 40) := by
        by_cases g : 255 < T.length
        · exact ⟨71, Lib.hid (buildV_no (by rw [ET.out, if_pos g]) (by decide)), .inl ⟨rfl, g⟩⟩
        · exact ⟨40, Lib.hid (buildV_no (by rw [ET.out, if_neg g]) (by decide)), .inr rfl⟩
      have hTm : T.length ≤ 1000 := by omega
      clear hTl ET
      go_wp2_with fail
      refine (build_at _ T _ hT hTo (by omega)).mono ?_
      rintro e w6 ⟨rfl, k6⟩
      rw [HVT.out]
      have o6 := (o2.tr o5).tr k6
      have hC6 := (hC.old o5).old k6
      clear k6 o5 hT hC hx
      go_upto_region 10 with (at_builtin; refine wp_cels rfl (.tmp 80) (.tmp 81) rfl (W0 := w6) (old_alloc _ _) _ [] l rfl (own_empty (new_bk _ _ _) (by simp)) b off l.length cap rfl rfl (hC6.old (old_alloc _ _)) (by simp; omega) ?_; intro v7 w7 n7 o7; rw [List.nil_append] at n7)
    all_goals
      rcases n7.2 with ⟨-, g0⟩ | ⟨g7, cap7, cur, rfl, hg7, hB7, -⟩
      · exact absurd g0 hz
      have hC7 : CelsAt w7 g7 0 l := by
        rcases n7.cels with ⟨g0, -⟩ | ⟨b', o', c', e', h'⟩
        · rw [g0] at hz; exact absurd rfl hz
        · injection e' with e1 e2 e3
          injection e1 with e1
          injection e1 with e4 e5
          subst e4 e5
          exact h'
      have x7 := (hC7.at_ k hkl).held.1
      have f7 : w7.frozen? ⟨g7, k * 6, none⟩ = false := frozen_of_row _ _ _ _ _ hB7
      rw [Nat.zero_add] at x7
      have hS7 := cels_set hC7 hkl
      rw [Nat.zero_add, hcc] at hS7
      have o8 : Old w (w7.setCell ⟨g7, k * 6, none⟩ (.string ⟨#[]⟩)) := (o6.tr o7).st (by have := o6.size; simp; omega) _
      have hso : ∀ d ∈ l.set k (rowless c), d.ok := by
        intro d hd
        rcases List.mem_or_eq_of_mem_set hd with hd | rfl
        · exact hok d hd
        · exact hoc
      have HVB := Lib.hid (buildV_no (l := l.set k (rowless c)) EB.out (by decide))
      have hcs : Cels (w7.setCell ⟨g7, k * 6, none⟩ (.string ⟨#[]⟩)) (.slice (some ⟨g7, 0, none⟩) l.length cap7) (l.set k (rowless c)) := .inr ⟨g7, 0, cap7, by rw [List.length_set], hS7⟩
      have hsl : (l.set k (rowless c)).length ≤ 1000000 := by rw [List.length_set]; omega
      clear n7 hC7 hS7 o6 o7 hC6 EB hcc HS HT
      generalize l.set k (rowless c) = Bd at *
      go_upto_region 11 with (fail)
      generalize w7.setCell ⟨g7, k * 6, none⟩ (.string ⟨#[]⟩) = w8 at *
      clear x7 f7 hB7
      go_wp2_with fail
      refine (build_at _ Bd _ hcs hso (by omega)).mono ?_
      rintro e w9 ⟨rfl, k9⟩
      rw [HVB.out]
      have o9 := o8.tr k9
      rcases hfin with ⟨rfl, h255⟩ | rfl
      · have d255 : decide ((255 : Int) < (T.length : Int)) = true := by simp; omega
        go_wp2
        go_ret
        exact ⟨rfl, o9⟩
      · go_wp2
        go_ret
        exact ⟨rfl, o9⟩

set_option maxRecDepth 100000 in
theorem blockErrors_lifted (os : Os) (started : os.Started) (H : Type) (enc : TypeId × Value → H) :
    ReturnsInHanded {} Try.checked os 8 .any (Rows.blockErrorsSpec.pre6 enc Try.prog Try.f8 Rows.blockErrorsRow.domain false) (Rows.blockErrorsSpec.post enc Try.prog Try.f8 false true false false) := by
  refine returnsInHanded_of_change (C := Try.checked) Try.own started (by kernel_rfl) Try.func8
    (ChangeSpec.witness6 (enc := enc) (C := Try.checked) false ⟨#[], #[.slice none 0 0, .int .u8 0], []⟩ 8 (by kernel_rfl) (by kernel_rfl) (by kernel_rfl) (by kernel_rfl)) ?_
  intro W base args ds gs before hval0 hW hcnd _
  have hval : ∀ (j : Nat) t v, Try.f8.params[j]? = some t → args[j]? = some v → Value.okWide Try.prog W .any base t v := hval0
  have hW' := hW
  obtain ⟨p, q, hA0, hV, rfl, hfz, hnd⟩ := hW
  have hA : DataW.TrodAll enc Try.prog W 0 (fun _ => true) true Try.f8.params.toList args.toList ds p := hA0
  rw [Try.params8] at hA hval
  obtain ⟨v0, v1, d0, d1, p0, p1, rfl, rfl, rfl, h0, h1⟩ := trodAll_two hA
  obtain ⟨rfl, rfl⟩ := trodVars_none hV
  have hlt : ∀ x ∈ p0 ++ (p1), x.block < W.heap.size := fun x hx => hW'.lt x (by simpa using hx)
  have k0 := h0
  have k1 := h1
  obtain ⟨a0, o0, q0, m0, x0⟩ := open_cels (hval 0 22 v0 rfl rfl) h0 (fun x hx => hlt x (by simp [hx]))
  obtain ⟨a1, rfl, o1⟩ := open_u8 (hval 1 5 v1 rfl rfl) h1
  clear hA0 hval0
  refine (law_errors v0 a0 a1 W o0 q0 m0 x0 o1).mono fun e W' ⟨he, hb⟩ => ?_
  subst he
  refine ⟨_, rfl, _, _, _, [], p0 ++ (p1), [], hW', trodAll_mk1 (shut_bool Try.underlying4 _), ?_, rfl, hb.frame _, fun h => by cases h⟩
  have r0 := Below.trod Try.laidOut (by kernel_rfl) (of_decide_eq_true (by kernel_rfl)) k0 hb (fun x hx => hlt x (by simp [hx]))
  have r1 := Below.trod Try.laidOut (by kernel_rfl) (of_decide_eq_true (by kernel_rfl)) k1 hb (fun x hx => hlt x (by simp [hx]))
  exact trodAll_mk2 r0 r1

theorem blockErrors_holds : Rows.BlockErrorsSaid :=
  OpenClaim.holds_of_wide 8 Try.f8 rfl rfl rfl rfl rfl rfl rfl ⟨rfl, rfl, rfl, rfl, rfl⟩ rfl rfl rfl rfl rfl (by kernel_rfl) Try.func8 (by kernel_rfl)
    (of_decide_eq_true (by kernel_rfl)) (by unfold Func.isWrapper; first | (rw [if_pos (by decide +kernel)]; kernel_rfl) | (rw [if_neg (by decide +kernel)]; exact ⟨rfl, rfl⟩))
    (fun os started H enc _ => blockErrors_lifted os started H enc)
#print axioms blockErrors_holds
end Go.Proofs.Ytdlendmbdikflaa
