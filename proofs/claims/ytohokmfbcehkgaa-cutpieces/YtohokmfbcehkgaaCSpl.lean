/-
  Split of the code. Conditions: lengths as written.
-/
import Derived.Test.YtohokmfbcehkgaaCMt2
import Derived.Deep.OwnRows
namespace Go.Proofs.Ytohokmfbcehkgaa
open Go.RowKit Go.Shelf

attribute [local go_sem] Oper.semAt_some

def splitE (l : List Cel) (bs : List (List UInt8)) : Int := if bords bs = false then 1 else if rising l = false then 40 else 0
def splitV (l : List Cel) (bs : List (List UInt8)) : List (List Cel) := if bords bs = false then [] else if rising l = false then [] else splitL bs l
theorem Try.infoSS : (Try.prog.info? 22).map (fun i => (i.zero, i.size, i.bytes)) = some (some (.slice none 0 0), 1, 24) := by kernel_rfl
theorem madeLL (M : Nat) (hM : M ≤ 1000000) (w : World) : (Instr.makeSlice 26 (.int .i64 (M : Int)) (.int .i64 (M : Int))).run Try.prog w = .ok (.slice (some ⟨w.heap.size, 0, none⟩) M M) (w.alloc (.cells (Array.replicate M (Value.slice none 0 0)) 22)) := by
  rw [run_make_row' 26 22 (.slice none 0 0) 24 Try.underlying26 Try.infoSS rfl .i64 .i64 M (by omega) (by omega) w]
  congr 2
  congr 1
  apply Array.ext_getElem?
  intro j
  by_cases hj : j < M
  · simp [madeCells, hj, Nat.mod_one]
  · simp [madeCells, hj]
theorem OwnLL.zeros {w : World} {base g M : Nat} (h : Bk w g 22 (Array.replicate M (Value.slice none 0 0))) (hb : base ≤ g) (hM : M ≤ 1000000) : OwnLL w base (.slice (some ⟨g, 0, none⟩) M M) (List.replicate M (Value.slice none 0 0)) (List.replicate M []) := by
  refine ⟨⟨by simp, .inr ⟨g, M, _, by simp, hb, h, by simp, by unfold maxLen; omega, by simp, by simp⟩⟩, by simp, fun i u l hu hl => ?_, fun i j u u' b hu _ hb _ => ?_⟩
  · have h1 : u = .slice none 0 0 := List.eq_of_mem_replicate (List.mem_of_getElem? hu)
    have h2 : l = [] := List.eq_of_mem_replicate (List.mem_of_getElem? hl)
    subst h1 h2
    exact OwnC.nil _ _
  · have h1 : u = .slice none 0 0 := List.eq_of_mem_replicate (List.mem_of_getElem? hu)
    subst h1
    cases hb
theorem its_old {T : Nat → TypeId → Bool} {g : Nat} {w A Z : World} (o : Old w A) (i : Its T g A Z) (hg : w.heap.size ≤ g) : Old w Z := by
  refine ⟨i.os.trans o.os, i.tape.trans o.tape, i.output.trans o.output, Nat.le_trans o.size i.size, fun j hj => ?_⟩
  have h := o.block j hj
  rw [← h]
  have hs := o.size
  obtain ⟨ob, ho⟩ : ∃ ob, A.heap[j]? = some ob := ⟨A.heap[j], Array.getElem?_eq_getElem (by omega)⟩
  rw [i.block j ob ho (.inl (by omega)), ho]
theorem own_its {g : Nat} {ob : Option Nat} {A Z : World} {base : Nat} {v : Value} {us : List Value} {LL : List (List Cel)} (h : OwnLL A base v us LL) (i : Its (rowT g ob) g A Z) (hob : ∀ b, ob = some b → b < base) (hv : ∀ j, v.ownBlock = some j → j < g ∨ rowT g ob j 22 = false) : OwnLL Z base v us LL := by
  refine h.keep (fun j o hj ho => ?_) (fun j cs hj ho => i.block j _ ho (.inr ⟨rfl, ?_⟩))
  · rcases h.outer.2 with ⟨rfl, -⟩ | ⟨g', cap, cur, rfl, hb, hg, -⟩
    · cases hj
    · have e : g' = j := by simpa [Value.ownBlock] using hj
      subst e
      rw [hg] at ho
      cases ho
      rcases hv g' rfl with h1 | h1
      · exact i.block g' _ hg (.inl h1)
      · exact i.block g' _ hg (.inr ⟨rfl, by rw [mine, h1]⟩)
  · rw [mine, rowT]
    cases ob with
    | none => simp
    | some b =>
      have := hob b rfl
      simp
      omega
/-- The cells of a list that came in: where they lie, if there are some. -/
theorem cels_place {w : World} {A : Option Addr} {n cap : Nat} {l : List Cel} (h : Cels w (.slice A n cap) l) : ∃ b0 off0 ob, (l ≠ [] → A = some ⟨b0, off0, none⟩) ∧ (l ≠ [] → CelsAt w b0 off0 l) ∧ (l ≠ [] → ob = some b0) ∧ (∀ b, ob = some b → b < w.heap.size) ∧ b0 ≤ w.heap.size := by
  by_cases hl : l = []
  · exact ⟨0, 0, none, fun h => absurd hl h, fun h => absurd hl h, fun h => absurd hl h, fun b hb => (by cases hb), Nat.zero_le _⟩
  · rcases h with ⟨-, h⟩ | ⟨A', cap', h1, h2, h3⟩
    · exact absurd h hl
    · obtain ⟨b, off, rfl, k⟩ := h3 hl
      injection h1 with e1 e2 e3
      obtain ⟨x, hx⟩ : ∃ x, l[0]? = some x := by
        cases l with
        | nil => exact absurd rfl hl
        | cons x _ => exact ⟨x, rfl⟩
      obtain ⟨cs, ty, fz, ho⟩ := heap_of_cell (k 0 x hx).a0
      have hlt := (Array.getElem?_eq_some_iff.1 ho).1
      exact ⟨b, off, some b, fun _ => e1, fun _ => k, fun _ => rfl, fun b' hb' => (by cases hb'; exact hlt), by omega⟩
/-- A row of them is cells, too. -/
theorem part_cels {w : World} {b0 off0 cap : Nat} {l : List Cel} {x : Grp} (hx : GrpIn l x) (hc : CelsAt w b0 off0 l) (hcap : l.length ≤ cap) : Cels w (.slice (some ⟨b0, off0 + x.s * 6, none⟩) x.cs.length (cap - x.s)) x.cs := by
  refine .inr ⟨⟨b0, off0 + x.s * 6, none⟩, cap - x.s, rfl, by have := hx.fits; omega, fun _ => ⟨b0, off0 + x.s * 6, rfl, ?_⟩⟩
  have h := (hc.drop_ x.s).take_ x.cs.length
  rw [← hx.part] at h
  exact h

/-- Between two rows of Split. -/
structure SpI (w : World) (gl gx : Nat) (A2 : Option Addr) (cap2 : Nat) (bs : List (List UInt8)) (LL : List (List Cel)) (us : List Value) (Z : World) : Prop where
  kb : Bk Z w.heap.size 23 #[.slice A2 bs.length cap2]
  kx : Bk Z gx 26 #[.slice (some ⟨gl, 0, none⟩) (bs.length + 1) (bs.length + 1)]
  ll : OwnLL Z w.heap.size (.slice (some ⟨gl, 0, none⟩) (bs.length + 1) (bs.length + 1)) us LL
  od : Old w Z
theorem SpI.its {w : World} {gl gx g : Nat} {ob : Option Nat} {A2 : Option Addr} {cap2 : Nat} {bs : List (List UInt8)} {LL : List (List Cel)} {us : List Value} {A Z : World} (h : SpI w gl gx A2 cap2 bs LL us A) (i : Its (rowT g ob) g A Z) (hob : ∀ b, ob = some b → b < w.heap.size) (h1 : w.heap.size < g) (h2 : gx < g) (h3 : gl < g) : SpI w gl gx A2 cap2 bs LL us Z :=
  ⟨i.block _ _ h.kb (.inl h1), i.block _ _ h.kx (.inl h2), own_its h.ll i hob (fun j hj => .inl ((show gl = j by simpa [Value.ownBlock] using hj) ▸ h3)), its_old h.od i (by omega)⟩

/-- append, whose run is known, as one step of a region that draws its order, in a round. -/
theorem step_run {F : Fence} {n : Nat} {ops : Array Oper} {op : Oper} {a : Act} {K : Act → World → Prop} {Q : Exit → Act → World → Prop} {E : Prop} {w w' : World} (hgd : op.guard = none) (s x : Operand) (t : TypeId) (ho : op.op = .call { callee := .builtin .append, args := #[s, x], argTypes := #[t, t] }) (v u v' : Value) (hs : a.eval s = v) (hx : a.eval x = u)
    (hr : (Builtin.append_ #[t, t] op.type #[v, u]).run Try.prog w = .ok v' w') (h : K (a.put op.dst v') w') :
    if Region.wanted op (yielded ops a.tmps) = true then Oper.wpIn F n Try.prog op a w K Q else E := by
  have hw : Region.wanted op (yielded ops a.tmps) = true := by simp [Region.wanted, hgd]
  rw [if_pos hw]
  unfold Oper.wpIn
  refine ⟨?_, ?_⟩
  · simp [Oper.about, ho, resolve, Target.leads, Sem.run_pure]
  · rw [Oper.semAt_plain F _ _ (by rw [ho]; intro c hc'; cases hc')]
    simp [execOp, ho, resolve, invoke, builtin, hs, hx, hr, Result.andThen]
    exact h
set_option maxRecDepth 100000 in
set_option maxHeartbeats 8000000 in
theorem split_in (n : Nat) (hn : 3 ≤ n) (w : World) (v : Value) (l : List Cel) (h : Cels w v l) (hl : l.length ≤ 1000) (A2 : Option Addr) (cap2 : Nat) (bs : List (List UInt8)) (hS : Strs w A2 cap2 bs) (hbs : bs.length ≤ 1000) :
    CallsIn Fence.wide n Try.prog 11 #[v, .slice A2 bs.length cap2] w fun e W' => ∃ u us, e = .returned (.tuple #[u, .int .i64 (splitE l bs)]) ∧ OwnLL W' w.heap.size u us (splitV l bs) ∧ Old w W' := by
  have h1 : 1 ≤ n := by omega
  obtain ⟨A, cap, rfl, hc⟩ := h.form
  have oA : Old w (w.alloc (.cells #[.slice A2 bs.length cap2] 23)) := old_alloc _ _
  have kA := new_bk w 23 #[.slice A2 bs.length cap2]
  have CB := borders_any _ A2 cap2 bs (hS.old oA) (by omega)
  have HI := Lib.hid h
  have HS := Lib.hid hS
  clear h hS
  refine callsIn_of_wp_marks Try.func11 rfl trivial ?_ rfl
  simp only [Try.ntmps11, List.size_toArray, List.length_cons, List.length_nil, Nat.reduceAdd, Nat.reduceSub, Array.replicate_succ, Array.replicate_zero, List.push_toArray, List.append_toArray, List.nil_append, List.cons_append]
  gi_wp2_with fail
  refine ⟨trivial, (callsIn_wide.2 CB).mono ?_⟩
  clear CB
  rintro e w1 ⟨rfl, o1⟩
  cases hb : bords bs with
  | false =>
    have HE := Lib.hid (show splitE l bs = 1 ∧ splitV l bs = [] by simp [splitE, splitV, hb])
    have o2 := oA.tr o1
    clear hb oA o1 kA
    gi_wp2
    exact ⟨_, results_tmp2 rfl _ _ _, .slice none 0 0, [], by rw [HE.out.1]; rfl, by rw [HE.out.2]; exact OwnLL.nil _ _, o2⟩
  | true =>
    have o2 := oA.tr o1
    have CR := rising_at _ l w1 hl (HI.out.old o2)
    have kA1 := kA.old o1
    clear kA oA o1
    gi_wp2_with fail
    refine ⟨trivial, (callsIn_wide.2 CR).mono ?_⟩
    clear CR
    rintro e w2 ⟨rfl, o3⟩
    have o4 := o2.tr o3
    have kA2 := kA1.old o3
    have cA := kA2.cell 0
    simp only [List.getElem?_toArray, List.getElem?_cons_zero] at cA
    clear kA1
    cases hr : rising l with
    | false =>
      have HE := Lib.hid (show splitE l bs = 40 ∧ splitV l bs = [] by simp [splitE, splitV, hb, hr])
      clear hb hr
      gi_wp2
      exact ⟨_, results_tmp2 rfl _ _ _, .slice none 0 0, [], by rw [HE.out.1]; rfl, by rw [HE.out.2]; exact OwnLL.nil _ _, o4⟩
    | true =>
      have HE := Lib.hid (show splitE l bs = 0 ∧ splitV l bs = splitL bs l by simp [splitE, splitV, hb, hr])
      have HM := fun W => madeLL (bs.length + 1) (by omega) W
      simp only [Int.natCast_add, Int.natCast_one] at HM
      have HU := Lib.hid (rising_rows l hr)
      have HSo := Lib.hid (bords_sorted hb)
      clear hr hb o2 o3
      obtain ⟨b0, off0, ob, hA, hcs, hob, hobs, hb0⟩ := cels_place HI.out
      gi_wp2_with (refine ⟨trivial, ?_⟩; gi_at_call 25; refine (rows_in (n - 1) _ _ _ _ rfl _).mono ?_; rintro e w' ⟨rfl, rfl⟩)
      have t0 := ((new_bk w2 22 (Array.replicate (bs.length + 1) (Value.slice none 0 0))).alloc (.cells #[.slice (some ⟨w2.heap.size, 0, none⟩) (bs.length + 1) (bs.length + 1)] 26)).alloc (.cells #[.slice A l.length cap] 22)
      have t1 := (new_bk (w2.alloc (.cells (Array.replicate (bs.length + 1) (Value.slice none 0 0)) 22)) 26 #[.slice (some ⟨w2.heap.size, 0, none⟩) (bs.length + 1) (bs.length + 1)]).alloc (.cells #[.slice A l.length cap] 22)
      have t2 := new_bk ((w2.alloc (.cells (Array.replicate (bs.length + 1) (Value.slice none 0 0)) 22)).alloc (.cells #[.slice (some ⟨w2.heap.size, 0, none⟩) (bs.length + 1) (bs.length + 1)] 26)) 22 #[.slice A l.length cap]
      have ox : Old w2 (((w2.alloc (.cells (Array.replicate (bs.length + 1) (Value.slice none 0 0)) 22)).alloc (.cells #[.slice (some ⟨w2.heap.size, 0, none⟩) (bs.length + 1) (bs.length + 1)] 26)).alloc (.cells #[.slice A l.length cap] 22)) := (((Old.re _).al _).al _).al _
      have hsz : (((w2.alloc (.cells (Array.replicate (bs.length + 1) (Value.slice none 0 0)) 22)).alloc (.cells #[.slice (some ⟨w2.heap.size, 0, none⟩) (bs.length + 1) (bs.length + 1)] 26)).alloc (.cells #[.slice A l.length cap] 22)).heap.size = w2.heap.size + 1 + 1 + 1 := by simp
      simp only [World.size_alloc] at t1 t2
      have kb := kA2.old ox
      have hlw := kA2.lt
      have o5 := o4.tr ox
      generalize (((w2.alloc (.cells (Array.replicate (bs.length + 1) (Value.slice none 0 0)) 22)).alloc (.cells #[.slice (some ⟨w2.heap.size, 0, none⟩) (bs.length + 1) (bs.length + 1)] 26)).alloc (.cells #[.slice A l.length cap] 22)) = W0 at *
      clear ox kA2 cA HM
      have hg1 : w.heap.size < W0.heap.size := by omega
      have hg2 : w2.heap.size + 1 < W0.heap.size := by omega
      have hg3 : w2.heap.size < W0.heap.size := by omega
      have hts := rows_tells (n - 1) (by omega) (w2.heap.size + 1 + 1) b0 off0 cap l A (by omega) hc hA HU.out W0 (by omega) ob hob t2 (fun h => (hcs h).old o5)
      have HG := Lib.hid (show ∀ x ∈ grps 0 l, GrpIn l x from grps_in 0 l l rfl (Nat.zero_le _))
      have HCS := Lib.hid hcs
      have hgl := grps_len 0 l
      clear t2 hA hcs hob
      refine range_its (encs := encG b0 off0 cap) (T := rowT W0.heap.size ob) (L := grps 0 l) rfl h1 (gf := 32) (lb := #[.pointer (some ⟨w2.heap.size + 1 + 1, 0, none⟩)]) rfl trivial (enters_of Try.func32 (by kernel_rfl) rfl)
        hts (fun _ => rfl)
        (fun k W => ∃ us, SpI w w2.heap.size (w2.heap.size + 1) A2 cap2 bs (splitL bs (((grps 0 l).take k).flatMap (fun x : Grp => x.cs))) us W) (fun _ _ _ => False)
        (fun _ _ _ i ⟨us, h⟩ => ⟨us, h.its i hobs hg1 hg2 hg3⟩) (fun _ _ _ _ _ h => h)
        ⟨_, kb, t1, by rw [List.take_zero, List.flatMap_nil, splitL_nil]; exact OwnLL.zeros t0 (by omega) (by omega), o5⟩
        (fun k x a' W => (∃ us, SpI w w2.heap.size (w2.heap.size + 1) A2 cap2 bs (splitL bs (((grps 0 l).take k).flatMap (fun x : Grp => x.cs))) us W) ∧ a' = { tmps := #[.slice A l.length cap, .slice A2 bs.length cap2, undef, .pointer (some ⟨w.heap.size, 0, none⟩), .slice none 0 0, .int .i64 0, .pointer (some ⟨w2.heap.size + 1, 0, none⟩), .string (B x.row), .slice (some ⟨b0, off0 + x.s * 6, none⟩) x.cs.length (cap - x.s), undef, .slice A2 bs.length cap2, .bool true, .bool false, .slice A l.length cap, .bool true, .bool false, .slice A2 bs.length cap2, .int .i64 (bs.length : Int), .int .i64 ((bs.length : Int) + 1), .slice (some ⟨w2.heap.size, 0, none⟩) (bs.length + 1) (bs.length + 1), .slice A l.length cap, .func (.func 32) #[] #[.pointer (some ⟨w2.heap.size + 1 + 1, 0, none⟩)], .string (B x.row), .slice (some ⟨b0, off0 + x.s * 6, none⟩) x.cs.length (cap - x.s), undef, undef, undef, undef, undef, undef, undef, undef, undef, undef, undef, undef, undef], defers := [] })
        ?ax ?assign ?body ?done ?stop
      case ax =>
        rintro k x a' W l o o' hl ho hc ⟨⟨us, hP⟩, rfl⟩
        exact ⟨⟨us, hP.its (.put _ hl ho hc) hobs hg1 hg2 hg3⟩, rfl⟩
      case assign =>
        intro l k x W K hx h3 hP hK
        dsimp only [encG]
        gi_wp2
        exact hK _ _ (Bod.re _ _ _) ⟨hP, rfl⟩
      case body =>
        rintro l' k x a' W hx ⟨⟨us, hP⟩, rfl⟩
        have cb := hP.kb.cell 0
        simp only [List.getElem?_toArray, List.getElem?_cons_zero] at cb
        have HP := Lib.hid hP
        clear hP
        have hn2 : 1 ≤ n - 1 - 1 := by omega
        have CS := search_any A2 cap2 bs x.row W (HS.out.old HP.out.od) (by omega) HSo.out
        gi_wp2_with fail
        refine ⟨trivial, (CallsIn.inRound l' (callsIn_wide.2 CS)).mono ?_⟩
        clear CS
        rintro e w3 ⟨rfl, o3⟩
        have GI := HG.out x (List.mem_of_getElem? hx)
        have hxs : (grps 0 l).take (k + 1) = (grps 0 l).take k ++ [x] := (take_at hx).symm
        have hpl := place_le bs x.row
        have hne : l ≠ [] := by
          rintro rfl
          rw [grps_nil] at hx
          simp at hx
        have od := HP.out.od.tr o3.dr
        have hpc : Cels w3.drew (.slice (some ⟨b0, off0 + x.s * 6, none⟩) x.cs.length (cap - x.s)) x.cs := part_cels GI ((HCS.out hne).old od) hc
        have hll := (HP.out.ll.old o3.dr)
        obtain ⟨g', u, cur, e1, hgb, hu, hin, hcur, hcu⟩ := hll.at_ (splitL_at bs (((grps 0 l).take k).flatMap (fun x : Grp => x.cs)) hpl)
        simp only [Option.some.injEq, Addr.mk.injEq, and_true] at e1
        subst e1
        have hle : (((grps 0 l).take k).flatMap (fun x : Grp => x.cs)).length + x.cs.length ≤ l.length := by
          have h9 := congrArg List.length (grps_flat 0 l)
          rw [← List.take_append_drop (k + 1) (grps 0 l), hxs] at h9
          simp only [List.flatMap_append, List.length_append, List.flatMap_cons, List.flatMap_nil, List.append_nil] at h9
          omega
        have hfl := List.length_filter_le (fun c : Cel => place bs c.row == place bs x.row) (((grps 0 l).take k).flatMap (fun x : Grp => x.cs))
        obtain ⟨u', w4, cur4, happ, o4', hb4, hkeep0, hll4, od4, hkeep, hszk, fu'⟩ := ll_grow od hll hu (splitL_at bs (((grps 0 l).take k).flatMap (fun x : Grp => x.cs)) hpl) rfl hpc (by omega) 22
        rw [splitL_app bs _ x.cs x.row GI.rows] at hll4
        have kb3 := HP.out.kb.old o3.dr
        have kx3 := HP.out.kx.old o3.dr
        have hI5 : SpI w w2.heap.size (w2.heap.size + 1) A2 cap2 bs (splitL bs (((grps 0 l).take (k + 1)).flatMap (fun x : Grp => x.cs))) _ (w4.setCell ⟨w2.heap.size, place bs x.row, none⟩ u') :=
          ⟨hkeep _ _ kb3 (by omega) (hin.not kb3 (by decide)), hkeep _ _ kx3 (by omega) (hin.not kx3 (by decide)), by rw [hxs, List.flatMap_append]; simpa using hll4, od4⟩
        have hrt : ∀ j t, w.heap.size ≤ j → t ≠ 9 → (j ≠ W0.heap.size + 2 ∨ t ≠ 22) → rowT W0.heap.size ob j t = false := fun j t h1 h2 h3 => by
          have h4 : (ob == some j) = false := by
            cases ob with
            | none => rfl
            | some b => have := hobs b rfl; simp; omega
          rw [rowT, h4]
          simp [h2]
          intro h5
          rcases h3 with h3 | h3
          · exact absurd h5 h3
          · exact h3
        have hbod : Bod (rowT W0.heap.size ob) W0.heap.size W (w4.setCell ⟨w2.heap.size, place bs x.row, none⟩ u') := (Bod.of_old o3.dr).tr (bod_of hcur (hrt _ _ (by omega) (by decide) (.inl (by omega))) (fun j hj => ⟨(hin.blk hj).2, hrt _ _ (hin.blk hj).1 (by decide) (.inr (by decide))⟩) hkeep hszk)
        have HZ := Lib.hid (And.intro hI5 hbod)
        obtain ⟨Au, cu, rfl, -⟩ := hin.cels.form
        obtain ⟨Au', nu', cu', rfl⟩ := fu'
        have c1 := kx3.cell 0
        have c2 := Bk.cell (hkeep0 _ _ kx3 (hin.not kx3 (by decide))) 0
        have f2 := Bk.fr hb4 (place bs x.row)
        have c3 : w4.cell? ⟨w2.heap.size, place bs x.row, none⟩ = some (.slice Au (List.filter (fun c : Cel => place bs c.row == place bs x.row) (((grps 0 l).take k).flatMap (fun x : Grp => x.cs))).length cu) := by
          rw [Bk.cell (hkeep0 _ _ hcur (hin.not hcur (by decide))), ← hcur.cell]
          exact hcu
        simp only [List.getElem?_toArray, List.getElem?_cons_zero] at c1 c2
        have i1 : (0 : Int) ≤ (place bs x.row : Int) := by omega
        have i2 : (place bs x.row : Int) < (bs.length : Int) + 1 := by omega
        generalize place bs x.row = pl at *
        generalize (((grps 0 l).take k).flatMap (fun x : Grp => x.cs)).filter (fun c : Cel => place bs c.row == pl) = old at *
        clear hI5 hbod hkeep hkeep0 hll4 od4 hpc hll hin hcur kb3 kx3 hb4 hle hfl hxs hu HP cb hts t0 t1 kb o4' hszk hrt
        gi_wp2_with fail
        refine wpIn_region_round (by kernel_rfl) (by kernel_rfl) ?_
        refine wpAnyIn_take (i := 1) (v := ?_) rfl rfl (by kernel_rfl) (by kernel_rfl) (by kernel_rfl) (fun _ _ _ h => h) ⟨Or.inl ⟨by rfl, ?y1q1⟩, fun _ => rfl⟩ ?_
        case y1q1 => (intro w; go_simp; try with_reducible rfl)
        refine wpAnyIn_take (i := 3) (v := ?_) rfl rfl (by kernel_rfl) (by kernel_rfl) (by kernel_rfl) (fun _ _ _ h => h) ⟨Or.inl ⟨by rfl, ?y3q2⟩, fun _ => rfl⟩ ?_
        case y3q2 => (intro w; go_simp; try with_reducible rfl)
        refine wpAnyIn_take (i := 6) (v := ?_) rfl rfl (by kernel_rfl) (by kernel_rfl) (by kernel_rfl) (fun _ _ _ h => h) ⟨Or.inl ⟨by rfl, ?y6q3⟩, fun _ => rfl⟩ ?_
        case y6q3 => (intro w; go_simp; try with_reducible rfl)
        refine wpAnyIn_ready (rs := [0, 2]) (by kernel_rfl) (by simp) ?_
        refine AllReadyIn.cons rfl (fun K hK => ?_) ?_
        · go_simp
          refine hK _ _ ?_
          clear hK K
          refine wpAnyIn_ready (rs := [2]) (by kernel_rfl) (by simp) ?_
          refine AllReadyIn.cons rfl (fun K hK => ?_) ?_
          · go_simp
            refine hK _ _ ?_
            clear hK K
            refine wpAnyIn_take (i := 4) (v := ?_) rfl rfl (by kernel_rfl) (by kernel_rfl) (by kernel_rfl) (fun _ _ _ h => h) ⟨Or.inl ⟨by rfl, ?y4q4⟩, fun _ => rfl⟩ ?_
            case y4q4 => (intro w; go_simp; try with_reducible rfl)
            refine wpAnyIn_ready (rs := [5]) (by kernel_rfl) (by simp) ?_
            refine AllReadyIn.cons rfl (fun K hK => ?_) ?_
            · go_simp
              refine hK _ _ ?_
              clear hK K
              refine wpAnyIn_ready (rs := [7]) (by kernel_rfl) (by simp) ?_
              refine AllReadyIn.cons rfl (fun K hK => ?_) ?_
              · refine step_run rfl (.tmp 32) (.tmp 33) 22 rfl _ _ _ rfl rfl happ ?_
                refine hK _ _ ?_
                clear hK K
                refine wpAnyIn_take (i := 8) (v := ?_) rfl rfl (by kernel_rfl) (by kernel_rfl) (by kernel_rfl) (fun _ _ _ h => h) ⟨Or.inl ⟨by rfl, ?y8q5⟩, fun _ => rfl⟩ ?_
                case y8q5 => (intro w; go_simp; try with_reducible rfl)
                refine wpAnyIn_ready (rs := [9]) (by kernel_rfl) (by simp) ?_
                refine AllReadyIn.cons rfl (fun K hK => ?_) ?_
                · go_simp
                  refine hK _ _ ?_
                  clear hK K
                  refine wpAnyIn_done (by kernel_rfl) ?_ _
                  exact ⟨HZ.out.2, _, HZ.out.1⟩

                exact AllReadyIn.nil

              exact AllReadyIn.nil

            exact AllReadyIn.nil

          exact AllReadyIn.nil

        refine AllReadyIn.cons rfl (fun K hK => ?_) ?_
        · go_simp
          refine hK _ _ ?_
          clear hK K
          refine wpAnyIn_take (i := 4) (v := ?_) rfl rfl (by kernel_rfl) (by kernel_rfl) (by kernel_rfl) (fun _ _ _ h => h) ⟨Or.inl ⟨by rfl, ?y4q6⟩, fun _ => rfl⟩ ?_
          case y4q6 => (intro w; go_simp; try with_reducible rfl)
          refine wpAnyIn_ready (rs := [0, 5]) (by kernel_rfl) (by simp) ?_
          refine AllReadyIn.cons rfl (fun K hK => ?_) ?_
          · go_simp
            refine hK _ _ ?_
            clear hK K
            refine wpAnyIn_ready (rs := [5]) (by kernel_rfl) (by simp) ?_
            refine AllReadyIn.cons rfl (fun K hK => ?_) ?_
            · go_simp
              refine hK _ _ ?_
              clear hK K
              refine wpAnyIn_ready (rs := [7]) (by kernel_rfl) (by simp) ?_
              refine AllReadyIn.cons rfl (fun K hK => ?_) ?_
              · refine step_run rfl (.tmp 32) (.tmp 33) 22 rfl _ _ _ rfl rfl happ ?_
                refine hK _ _ ?_
                clear hK K
                refine wpAnyIn_take (i := 8) (v := ?_) rfl rfl (by kernel_rfl) (by kernel_rfl) (by kernel_rfl) (fun _ _ _ h => h) ⟨Or.inl ⟨by rfl, ?y8q7⟩, fun _ => rfl⟩ ?_
                case y8q7 => (intro w; go_simp; try with_reducible rfl)
                refine wpAnyIn_ready (rs := [9]) (by kernel_rfl) (by simp) ?_
                refine AllReadyIn.cons rfl (fun K hK => ?_) ?_
                · go_simp
                  refine hK _ _ ?_
                  clear hK K
                  refine wpAnyIn_done (by kernel_rfl) ?_ _
                  exact ⟨HZ.out.2, _, HZ.out.1⟩

                exact AllReadyIn.nil

              exact AllReadyIn.nil

            exact AllReadyIn.nil

          refine AllReadyIn.cons rfl (fun K hK => ?_) ?_
          · go_simp
            refine hK _ _ ?_
            clear hK K
            refine wpAnyIn_ready (rs := [0, 7]) (by kernel_rfl) (by simp) ?_
            refine AllReadyIn.cons rfl (fun K hK => ?_) ?_
            · go_simp
              refine hK _ _ ?_
              clear hK K
              refine wpAnyIn_ready (rs := [7]) (by kernel_rfl) (by simp) ?_
              refine AllReadyIn.cons rfl (fun K hK => ?_) ?_
              · refine step_run rfl (.tmp 32) (.tmp 33) 22 rfl _ _ _ rfl rfl happ ?_
                refine hK _ _ ?_
                clear hK K
                refine wpAnyIn_take (i := 8) (v := ?_) rfl rfl (by kernel_rfl) (by kernel_rfl) (by kernel_rfl) (fun _ _ _ h => h) ⟨Or.inl ⟨by rfl, ?y8q8⟩, fun _ => rfl⟩ ?_
                case y8q8 => (intro w; go_simp; try with_reducible rfl)
                refine wpAnyIn_ready (rs := [9]) (by kernel_rfl) (by simp) ?_
                refine AllReadyIn.cons rfl (fun K hK => ?_) ?_
                · go_simp
                  refine hK _ _ ?_
                  clear hK K
                  refine wpAnyIn_done (by kernel_rfl) ?_ _
                  exact ⟨HZ.out.2, _, HZ.out.1⟩

                exact AllReadyIn.nil

              exact AllReadyIn.nil

            refine AllReadyIn.cons rfl (fun K hK => ?_) ?_
            · refine step_run rfl (.tmp 32) (.tmp 33) 22 rfl _ _ _ rfl rfl happ ?_
              refine hK _ _ ?_
              clear hK K
              refine wpAnyIn_ready (rs := [0]) (by kernel_rfl) (by simp) ?_
              refine AllReadyIn.cons rfl (fun K hK => ?_) ?_
              · go_simp
                refine hK _ _ ?_
                clear hK K
                refine wpAnyIn_take (i := 8) (v := ?_) rfl rfl (by kernel_rfl) (by kernel_rfl) (by kernel_rfl) (fun _ _ _ h => h) ⟨Or.inl ⟨by rfl, ?y8q9⟩, fun _ => rfl⟩ ?_
                case y8q9 => (intro w; go_simp; try with_reducible rfl)
                refine wpAnyIn_ready (rs := [9]) (by kernel_rfl) (by simp) ?_
                refine AllReadyIn.cons rfl (fun K hK => ?_) ?_
                · go_simp
                  refine hK _ _ ?_
                  clear hK K
                  refine wpAnyIn_done (by kernel_rfl) ?_ _
                  exact ⟨HZ.out.2, _, HZ.out.1⟩

                exact AllReadyIn.nil

              exact AllReadyIn.nil

            exact AllReadyIn.nil

          exact AllReadyIn.nil

        exact AllReadyIn.nil
      case done =>
        rintro D W hD ⟨us, hP⟩ hK
        have cb := hP.kx.cell 0
        simp only [List.getElem?_toArray, List.getElem?_cons_zero] at cb
        gi_wp2
        refine ⟨by simp, .inl ⟨_, _, rfl, run_takeDeferred hK, ?_⟩⟩
        have i2 : Its (rowT W0.heap.size ob) W0.heap.size W (W.putObj D (.deferred none)) := .put _ hD hK rfl
        have h2 := hP.its i2 hobs hg1 hg2 hg3
        have hll := h2.ll
        rw [List.take_length, grps_flat] at hll
        exact ⟨_, results_tmp2 rfl _ _ _, _, us, by rw [HE.out.1]; rfl, by rw [HE.out.2]; exact hll, h2.od⟩
      case stop =>
        rintro D c k W _ _ h _
        exact h.elim
end Go.Proofs.Ytohokmfbcehkgaa
