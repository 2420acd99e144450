/-
  Split of the reference. Conditions: lengths as written.
-/
import Derived.Test.YtohokmfbcehkgaaCRol
namespace Go.Proofs.Ytohokmfbcehkgaa
open Go.RowKit Go.Shelf

attribute [local go_sem] Oper.semAt_some

theorem one_cel {w : World} {g : Nat} {c : Cel} (h : Bk w g 50 (cells c)) : Cels w (.slice (some ⟨g, 0, none⟩) 1 1) [c] :=
  .inr ⟨⟨g, 0, none⟩, 1, rfl, Nat.le_refl _, fun _ => ⟨g, 0, rfl, fun i y hy => by
    cases i with
    | zero =>
      simp at hy
      subst hy
      exact ⟨h.cell 0, h.cell 1, h.cell 2, h.cell 3, h.cell 4, h.cell 5⟩
    | succ i => simp at hy⟩⟩
set_option maxRecDepth 100000 in
set_option maxHeartbeats 8000000 in
theorem rsplit_in (n : Nat) (hn : 3 ≤ n) (w : World) (v : Value) (l : List Cel) (h : Cels w v l) (hl : l.length ≤ 1000) (A2 : Option Addr) (cap2 : Nat) (bs : List (List UInt8)) (hS : Strs w A2 cap2 bs) (hbs : bs.length ≤ 1000) :
    CallsIn Fence.wide n Try.prog 12 #[v, .slice A2 bs.length cap2] w fun e W' => ∃ u us, e = .returned (.tuple #[u, .int .i64 (splitE l bs)]) ∧ OwnLL W' w.heap.size u us (splitV l bs) ∧ Old w W' := by
  have h1 : 1 ≤ n := by omega
  obtain ⟨A, cap, rfl, hc⟩ := h.form
  have CB := rborders_any _ A2 cap2 bs hS (by omega)
  have HI := Lib.hid h
  have HS := Lib.hid hS
  clear h hS
  refine callsIn_of_wp Try.func12 rfl trivial ?_ rfl
  simp only [Try.ntmps12, List.size_toArray, List.length_cons, List.length_nil, Nat.reduceAdd, Nat.reduceSub, Array.replicate_succ, Array.replicate_zero, List.push_toArray, List.append_toArray, List.nil_append, List.cons_append]
  gi_wp2_with fail
  refine ⟨trivial, (callsIn_wide.2 CB).mono ?_⟩
  clear CB
  rintro e w1 ⟨rfl, o1⟩
  cases hb : bords bs with
  | false =>
    have HE := Lib.hid (show splitE l bs = 1 ∧ splitV l bs = [] by simp [splitE, splitV, hb])
    clear hb
    gi_wp2
    exact bodyPost_ret (results_tmp2 rfl _ _ _) rfl ⟨.slice none 0 0, [], by rw [HE.out.1]; rfl, by rw [HE.out.2]; exact OwnLL.nil _ _, o1⟩
  | true =>
    have CR := rrising_at _ l w1 hl (HI.out.old o1)
    gi_wp2_with fail
    refine ⟨trivial, (callsIn_wide.2 CR).mono ?_⟩
    clear CR
    rintro e w2 ⟨rfl, o3⟩
    have o4 := o1.tr o3
    cases hr : rising l with
    | false =>
      have HE := Lib.hid (show splitE l bs = 40 ∧ splitV l bs = [] by simp [splitE, splitV, hb, hr])
      clear hb hr
      gi_wp2
      exact bodyPost_ret (results_tmp2 rfl _ _ _) rfl ⟨.slice none 0 0, [], by rw [HE.out.1]; rfl, by rw [HE.out.2]; exact OwnLL.nil _ _, o4⟩
    | true =>
      have HE := Lib.hid (show splitE l bs = 0 ∧ splitV l bs = splitL bs l by simp [splitE, splitV, hb, hr])
      have HM := fun W => madeLL (bs.length + 1) (by omega) W
      simp only [Int.natCast_add, Int.natCast_one] at HM
      have t0 := new_bk w2 22 (Array.replicate (bs.length + 1) (Value.slice none 0 0))
      have o5 := o4.tr (old_alloc w2 (.cells (Array.replicate (bs.length + 1) (Value.slice none 0 0)) 22))
      have hsz := o4.size
      have LL0 := OwnLL.zeros t0 hsz (by omega)
      rw [← splitL_nil] at LL0
      clear hr hb o1 o3 t0
      gi_wp2_with fail
      generalize w2.alloc (.cells (Array.replicate (bs.length + 1) (Value.slice none 0 0)) 22) = W0 at *
      gi_loopw [7] (fun v wr => ∃ (k : Nat) (us : List Value), v = .int .i64 (k : Int) ∧ k ≤ l.length ∧ Old w wr ∧ Hid (OwnLL wr w.heap.size (.slice (some ⟨w2.heap.size, 0, none⟩) (bs.length + 1) (bs.length + 1)) us (splitL bs (l.take k))))
        (fun v _ => l.length - (intOf v).toNat)
      case atStart => exact ⟨0, _, rfl, Nat.zero_le _, o5, Lib.hid LL0⟩
      case round =>
        obtain ⟨k, us, rfl, hk, o6, HL⟩ := hrel
        clear LL0 o5
        by_cases hlt : k < l.length
        · obtain ⟨c, HX⟩ : ∃ c, Hid (l[k]? = some c) := ⟨l[k], Lib.hid (List.getElem?_eq_getElem hlt)⟩
          obtain ⟨b, off, rfl, hx⟩ := (HI.out.old o6).at_ HX.out
          obtain ⟨x0, x1, x2, x3, x4, x5⟩ := hx.held
          have CP := rplace_any wr A2 cap2 bs c.row (HS.out.old o6) (by omega)
          have i1 : (k : Int) < (l.length : Int) := by omega
          have i2 : (0 : Int) ≤ (k : Int) := by omega
          gi_wp2_with fail
          refine ⟨trivial, (callsIn_wide.2 CP).mono ?_⟩
          clear CP
          rintro e w3 ⟨rfl, hw3⟩
          have hw3' := hw3.symm
          subst hw3'
          clear hw3
          have hpl := place_le bs c.row
          have hwd : Old wr wr.drew := (Old.re _).dr
          have od := o6.tr hwd
          have oda : Old wr.drew (wr.drew.alloc (.cells (cells c) 50)) := old_alloc _ _
          have hll := (HL.out.old hwd).old oda
          obtain ⟨g', u, cur, e1, hgb, hu, hin, hcur, hcu⟩ := hll.at_ (splitL_at bs (l.take k) hpl)
          simp only [Option.some.injEq, Addr.mk.injEq, and_true] at e1
          subst e1
          have hcu0 : wr.drew.cell? ⟨w2.heap.size, place bs c.row, none⟩ = some u := by
            obtain ⟨g9, u9, cur9, e9, -, hu9, -, -, hc9⟩ := (HL.out.old hwd).at_ (splitL_at bs (l.take k) hpl)
            simp only [Option.some.injEq, Addr.mk.injEq, and_true] at e9
            subst e9
            rw [hu] at hu9
            cases hu9
            exact hc9
          have hcu2 : (wr.alloc (.cells (cells c) 50)).drew.cell? ⟨w2.heap.size, place bs c.row, none⟩ = some u := hcu
          have hfl := List.length_filter_le (fun x : Cel => place bs x.row == place bs c.row) (l.take k)
          rw [List.length_take] at hfl
          obtain ⟨u', w4, cur4, happ, o4', hb4, hkeep0, hll4, od4, hkeep, hszk, fu'⟩ := ll_grow (od.tr oda) hll hu (splitL_at bs (l.take k) hpl) rfl (one_cel (new_bk wr.drew 50 (cells c))) (by simp; omega) 22
          rw [splitL_app bs _ [c] c.row (fun d hd => by rw [List.mem_singleton.1 hd]), take_at HX.out] at hll4
          have HZ := Lib.hid (And.intro hll4 od4)
          obtain ⟨Au, cu, rfl, -⟩ := hin.cels.form
          obtain ⟨Au', nu', cu', rfl⟩ := fu'
          have f2 := Bk.fr hb4 (place bs c.row)
          have c3 : w4.cell? ⟨w2.heap.size, place bs c.row, none⟩ = some (.slice Au (List.filter (fun x : Cel => place bs x.row == place bs c.row) (l.take k)).length cu) := by
            rw [Bk.cell (hkeep0 _ _ hcur (hin.not hcur (by decide))), ← hcur.cell]
            exact hcu
          have i3 : (0 : Int) ≤ (place bs c.row : Int) := by omega
          have i4 : (place bs c.row : Int) < (bs.length : Int) + 1 := by omega
          have y0 := cell_old x0 hwd
          have y1 := cell_old x1 hwd
          have y2 := cell_old x2 hwd
          have y3 := cell_old x3 hwd
          have y4 := cell_old x4 hwd
          have y5 := cell_old x5 hwd
          generalize place bs c.row = pl at *
          generalize (l.take k).filter (fun x : Cel => place bs x.row == pl) = old at *
          clear hkeep hkeep0 hll4 od4 hll hin hcur hb4 hfl hu o4' hszk x0 x1 x2 x3 x4 x5 hx
          gi_wp2_with fail
          refine wpIn_region_any (by kernel_rfl) ?_
          try (change wpAnyIn _ _ _ _ _ _ _ _ _ (World.drew _))
          refine wpAnyIn_take (i := 0) (v := ?_) rfl rfl (by kernel_rfl) (by kernel_rfl) (by kernel_rfl) (fun _ _ _ h => h) ⟨Or.inl ⟨by rfl, ?y0q1⟩, fun _ => rfl⟩ ?_
          case y0q1 => (intro w; go_simp; try with_reducible rfl)
          refine wpAnyIn_take (i := 1) (v := ?_) rfl rfl (by kernel_rfl) (by kernel_rfl) (by kernel_rfl) (fun _ _ _ h => h) ⟨Or.inl ⟨by rfl, ?y1q2⟩, fun _ => rfl⟩ ?_
          case y1q2 => (intro w; go_simp; try with_reducible rfl)
          refine wpAnyIn_take (i := 2) (v := ?_) rfl rfl (by kernel_rfl) (by kernel_rfl) (by kernel_rfl) (fun _ _ _ h => h) ⟨Or.inl ⟨by rfl, ?y2q3⟩, fun _ => rfl⟩ ?_
          case y2q3 => (intro w; go_simp; try with_reducible rfl)
          refine wpAnyIn_take (i := 3) (v := ?_) rfl rfl (by kernel_rfl) (by kernel_rfl) (by kernel_rfl) (fun _ _ _ h => h) ⟨Or.inl ⟨by rfl, ?y3q4⟩, fun _ => rfl⟩ ?_
          case y3q4 => (intro w; go_simp; try with_reducible rfl)
          refine wpAnyIn_take (i := 4) (v := ?_) rfl rfl (by kernel_rfl) (by kernel_rfl) (by kernel_rfl) (fun _ _ _ h => h) ⟨Or.inl ⟨by rfl, ?y4q5⟩, fun _ => rfl⟩ ?_
          case y4q5 => (intro w; go_simp; try with_reducible rfl)
          refine wpAnyIn_take (i := 6) (v := ?_) rfl rfl (by kernel_rfl) (by kernel_rfl) (by kernel_rfl) (fun _ _ _ h => h) ⟨Or.inl ⟨by rfl, ?y6q6⟩, fun _ => rfl⟩ ?_
          case y6q6 => (intro w; go_simp; try with_reducible rfl)
          refine wpAnyIn_take (i := 7) (v := ?_) rfl rfl (by kernel_rfl) (by kernel_rfl) (by kernel_rfl) (fun _ _ _ h => h) ⟨Or.inl ⟨by rfl, ?y7q7⟩, fun _ => rfl⟩ ?_
          case y7q7 => (intro w; go_simp; try with_reducible rfl)
          refine wpAnyIn_take (i := 8) (v := ?_) rfl rfl (by kernel_rfl) (by kernel_rfl) (by kernel_rfl) (fun _ _ _ h => h) ⟨Or.inl ⟨by rfl, ?y8q8⟩, fun _ => rfl⟩ ?_
          case y8q8 => (intro w; go_simp; try with_reducible rfl)
          refine wpAnyIn_ready (rs := [5, 9]) (by kernel_rfl) (by simp) ?_
          refine AllReadyIn.cons rfl (fun K hK => ?_) ?_
          · go_simp
            refine hK _ _ ?_
            clear hK K
            refine wpAnyIn_ready (rs := [9]) (by kernel_rfl) (by simp) ?_
            refine AllReadyIn.cons rfl (fun K hK => ?_) ?_
            · go_simp
              refine hK _ _ ?_
              clear hK K
              refine wpAnyIn_ready (rs := [10]) (by kernel_rfl) (by simp) ?_
              refine AllReadyIn.cons rfl (fun K hK => ?_) ?_
              · go_simp
                refine hK _ _ ?_
                clear hK K
                refine wpAnyIn_ready (rs := [11]) (by kernel_rfl) (by simp) ?_
                refine AllReadyIn.cons rfl (fun K hK => ?_) ?_
                · refine step_run rfl (.tmp 37) (.tmp 42) 22 rfl _ _ _ rfl rfl happ ?_
                  refine hK _ _ ?_
                  clear hK K
                  refine wpAnyIn_take (i := 12) (v := ?_) rfl rfl (by kernel_rfl) (by kernel_rfl) (by kernel_rfl) (fun _ _ _ h => h) ⟨Or.inl ⟨by rfl, ?y12q9⟩, fun _ => rfl⟩ ?_
                  case y12q9 => (intro w; go_simp; try with_reducible rfl)
                  refine wpAnyIn_ready (rs := [13]) (by kernel_rfl) (by simp) ?_
                  refine AllReadyIn.cons rfl (fun K hK => ?_) ?_
                  · go_simp
                    refine hK _ _ ?_
                    clear hK K
                    refine wpAnyIn_done (by kernel_rfl) ?_ _
                    gi_wp2
                    exact ⟨⟨k + 1, _, by go_num, by omega, HZ.out.2, Lib.hid HZ.out.1⟩, by simp [intOf]; omega⟩

                  exact AllReadyIn.nil

                exact AllReadyIn.nil

              exact AllReadyIn.nil

            exact AllReadyIn.nil

          refine AllReadyIn.cons rfl (fun K hK => ?_) ?_
          · go_simp
            refine hK _ _ ?_
            clear hK K
            refine wpAnyIn_ready (rs := [5, 10]) (by kernel_rfl) (by simp) ?_
            refine AllReadyIn.cons rfl (fun K hK => ?_) ?_
            · go_simp
              refine hK _ _ ?_
              clear hK K
              refine wpAnyIn_ready (rs := [10]) (by kernel_rfl) (by simp) ?_
              refine AllReadyIn.cons rfl (fun K hK => ?_) ?_
              · go_simp
                refine hK _ _ ?_
                clear hK K
                refine wpAnyIn_ready (rs := [11]) (by kernel_rfl) (by simp) ?_
                refine AllReadyIn.cons rfl (fun K hK => ?_) ?_
                · refine step_run rfl (.tmp 37) (.tmp 42) 22 rfl _ _ _ rfl rfl happ ?_
                  refine hK _ _ ?_
                  clear hK K
                  refine wpAnyIn_take (i := 12) (v := ?_) rfl rfl (by kernel_rfl) (by kernel_rfl) (by kernel_rfl) (fun _ _ _ h => h) ⟨Or.inl ⟨by rfl, ?y12q10⟩, fun _ => rfl⟩ ?_
                  case y12q10 => (intro w; go_simp; try with_reducible rfl)
                  refine wpAnyIn_ready (rs := [13]) (by kernel_rfl) (by simp) ?_
                  refine AllReadyIn.cons rfl (fun K hK => ?_) ?_
                  · go_simp
                    refine hK _ _ ?_
                    clear hK K
                    refine wpAnyIn_done (by kernel_rfl) ?_ _
                    gi_wp2
                    exact ⟨⟨k + 1, _, by go_num, by omega, HZ.out.2, Lib.hid HZ.out.1⟩, by simp [intOf]; omega⟩

                  exact AllReadyIn.nil

                exact AllReadyIn.nil

              exact AllReadyIn.nil

            refine AllReadyIn.cons rfl (fun K hK => ?_) ?_
            · go_simp
              refine hK _ _ ?_
              clear hK K
              refine wpAnyIn_ready (rs := [5]) (by kernel_rfl) (by simp) ?_
              refine AllReadyIn.cons rfl (fun K hK => ?_) ?_
              · go_simp
                refine hK _ _ ?_
                clear hK K
                refine wpAnyIn_ready (rs := [11]) (by kernel_rfl) (by simp) ?_
                refine AllReadyIn.cons rfl (fun K hK => ?_) ?_
                · refine step_run rfl (.tmp 37) (.tmp 42) 22 rfl _ _ _ rfl rfl happ ?_
                  refine hK _ _ ?_
                  clear hK K
                  refine wpAnyIn_take (i := 12) (v := ?_) rfl rfl (by kernel_rfl) (by kernel_rfl) (by kernel_rfl) (fun _ _ _ h => h) ⟨Or.inl ⟨by rfl, ?y12q11⟩, fun _ => rfl⟩ ?_
                  case y12q11 => (intro w; go_simp; try with_reducible rfl)
                  refine wpAnyIn_ready (rs := [13]) (by kernel_rfl) (by simp) ?_
                  refine AllReadyIn.cons rfl (fun K hK => ?_) ?_
                  · go_simp
                    refine hK _ _ ?_
                    clear hK K
                    refine wpAnyIn_done (by kernel_rfl) ?_ _
                    gi_wp2
                    exact ⟨⟨k + 1, _, by go_num, by omega, HZ.out.2, Lib.hid HZ.out.1⟩, by simp [intOf]; omega⟩

                  exact AllReadyIn.nil

                exact AllReadyIn.nil

              exact AllReadyIn.nil

            exact AllReadyIn.nil

          exact AllReadyIn.nil

        · obtain rfl : k = l.length := by omega
          have hll := HL.out
          rw [List.take_length] at hll
          have HF := Lib.hid hll
          clear hll HL
          gi_wp2
          exact bodyPost_ret (results_tmp2 rfl _ _ _) rfl ⟨_, us, by rw [HE.out.1]; rfl, by rw [HE.out.2]; exact HF.out, o6⟩
end Go.Proofs.Ytohokmfbcehkgaa
