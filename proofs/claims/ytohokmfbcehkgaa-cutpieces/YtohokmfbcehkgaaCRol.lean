/-
  Roll of the code. Conditions: lengths as written.
-/
import Derived.Test.YtohokmfbcehkgaaCCln
namespace Go.Proofs.Ytohokmfbcehkgaa
open Go.RowKit Go.Shelf

attribute [local go_sem] Oper.semAt_some

def rollE (l : List Cel) (most : Int) : Int := if most < 1 then 1 else if rising l = false then 40 else 0
def rollV (l : List Cel) (most : Int) : List (List Cel) := if most < 1 then [] else if rising l = false then [] else rollL most l
theorem roll_e40 {l : List Cel} {most : Int} (h : ¬ most < 1) (hr : rising l = false) : rollE l most = 40 ∧ rollV l most = [] := by
  unfold rollE rollV
  rw [if_neg h, if_neg h, if_pos hr, if_pos hr]
  exact ⟨rfl, rfl⟩
theorem roll_e0 {l : List Cel} {most : Int} (h : ¬ most < 1) (hr : rising l = true) : rollE l most = 0 ∧ rollV l most = rollL most l := by
  unfold rollE rollV
  rw [if_neg h, if_neg h, if_neg (by rw [hr]; decide), if_neg (by rw [hr]; decide)]
  exact ⟨rfl, rfl⟩

/-- Between two rows of Roll. -/
structure RoI (w : World) (gx g : Nat) (most : Int) (LL : List (List Cel)) (v : Value) (us : List Value) (Z : World) : Prop where
  km : Bk Z w.heap.size 3 #[.int .i64 most]
  kx : Bk Z gx 26 #[v]
  ll : OwnLL Z w.heap.size v us LL
  od : Old w Z
  far : ∀ j, v.ownBlock = some j → j ≠ g + 2
theorem OwnLL.blk {w : World} {base : Nat} {v : Value} {us : List Value} {LL : List (List Cel)} (h : OwnLL w base v us LL) {j : Nat} (hj : v.ownBlock = some j) : base ≤ j ∧ ∃ cs, Bk w j 22 cs := by
  rcases h.outer.2 with ⟨rfl, -⟩ | ⟨g, cap, cur, rfl, hb, hg, -⟩
  · cases hj
  · have e : g = j := by simpa [Value.ownBlock] using hj
    subst e
    exact ⟨hb, cur, hg⟩
theorem rowT_no {g : Nat} {ob : Option Nat} {base j : Nat} {t : TypeId} (hobs : ∀ b, ob = some b → b < base) (h1 : base ≤ j) (h2 : t ≠ 9) (h3 : j ≠ g + 2 ∨ t ≠ 22) : rowT g ob j t = false := by
  have h4 : (ob == some j) = false := by
    cases ob with
    | none => rfl
    | some b => have := hobs b rfl; simp; omega
  rw [rowT, h4]
  simp [h2]
  intro h5
  rcases h3 with h3 | h3
  · exact absurd h5 h3
  · exact h3
theorem RoI.its {w : World} {gx g : Nat} {ob : Option Nat} {most : Int} {LL : List (List Cel)} {v : Value} {us : List Value} {A Z : World} (h : RoI w gx g most LL v us A) (i : Its (rowT g ob) g A Z) (hob : ∀ b, ob = some b → b < w.heap.size) (h1 : w.heap.size < g) (h2 : gx < g) : RoI w gx g most LL v us Z :=
  ⟨i.block _ _ h.km (.inl h1), i.block _ _ h.kx (.inl h2), own_its h.ll i hob (fun j hj => .inr (rowT_no hob (h.ll.blk hj).1 (by decide) (.inl (h.far j hj)))), its_old h.od i (by omega), h.far⟩
theorem far_app {v v' : Value} {g sz : Nat} (h : ∀ j, v.ownBlock = some j → j ≠ g + 2) (hs : g + 3 ≤ sz) (hn : v'.ownBlock = v.ownBlock ∨ v'.ownBlock = some sz) : ∀ j, v'.ownBlock = some j → j ≠ g + 2 := fun j hj => by
  rcases hn with hn | hn
  · exact h j (by rw [← hn]; exact hj)
  · rw [hn] at hj
    have : sz = j := by simpa using hj
    omega

theorem Bk.uniq {w : World} {j : Nat} {t t' : TypeId} {cs cs' : Array Value} (h : Bk w j t cs) (h' : Bk w j t' cs') : t = t' := by
  unfold Bk at h h'
  rw [h] at h'
  cases h'
  rfl
theorem mem_len {α : Type} {L : List α} : ∀ {LL : List (List α)}, L ∈ LL → L.length ≤ LL.flatten.length
  | [], h => by cases h
  | x :: t, h => by
    rw [List.flatten_cons, List.length_append]
    rcases List.mem_cons.1 h with rfl | h
    · omega
    · have := mem_len h
      omega
theorem OwnC.low {w : World} {base base' : Nat} {v : Value} {l : List Cel} (h : OwnC w base v l) (hb : base' ≤ base) : OwnC w base' v l := by
  refine ⟨h.1, ?_⟩
  rcases h.2 with h1 | ⟨g, cap, cur, hv, hbg, rest⟩
  · exact .inl h1
  · exact .inr ⟨g, cap, cur, hv, by omega, rest⟩
/-- One list more, between two rows. -/
theorem ro_push {w W w8 : World} {gx g : Nat} {ob : Option Nat} {most : Int} {LL : List (List Cel)} {v u : Value} {us : List Value} {xc : List Cel} (hP : RoI w gx g most LL v us W) (h3 : g + 3 ≤ W.heap.size) (hgx : w.heap.size < gx) (hobs : ∀ b, ob = some b → b < w.heap.size)
    (o : Old W w8) (hu : OwnC w8 W.heap.size u xc) (hlen : LL.length ≤ 1000) (ty : TypeId) :
    ∃ v' w', (Builtin.append_ #[26, 26] ty #[v, .slice (some ⟨w8.heap.size, 0, none⟩) 1 1]).run Try.prog (w8.alloc (.cells #[u] 22)) = .ok v' w' ∧ (∃ A k c, v' = .slice A k c) ∧ Bk w' gx 26 #[v] ∧
      RoI w gx g most (LL ++ [xc]) v' (us ++ [u]) (w'.setCell ⟨gx, 0, none⟩ v') ∧ Bod (rowT g ob) g W (w'.setCell ⟨gx, 0, none⟩ v') := by
  have o9 : Old W (w8.alloc (.cells #[u] 22)) := o.al _
  have hll := hP.ll.old o9
  have hu9 := (hu.low hP.od.size).old (old_alloc w8 (.cells #[u] 22))
  have hsz := o9.size
  obtain ⟨v', w', hr, o1, hll', hk, hs, hnew, fv⟩ := ll_push (hP.od.tr o9) hll hu9 (fun j u' b hj hb1 hb2 => by
    have hi := (List.getElem?_eq_some_iff.1 hj).1
    obtain ⟨hl, hh⟩ : ∃ l, LL[j]? = some l := ⟨LL[j]'(by rw [← hP.ll.len]; exact hi), List.getElem?_eq_getElem _⟩
    obtain ⟨-, cs, hc⟩ := (hP.ll.inner j u' hl hj hh).blk hb1
    have h1 := (Array.getElem?_eq_some_iff.1 hc).1
    have h2 := (hu.blk hb2).1
    omega) w8.heap.size (new_bk _ _ _) (by omega) ty
  have km9 := hP.km.old o9
  have kx9 := hP.kx.old o9
  have nv : ∀ {j : Nat} {t : TypeId} {cs : Array Value}, Bk (w8.alloc (.cells #[u] 22)) j t cs → t ≠ 22 → some j ≠ v.ownBlock := fun hk ht hq => by
    obtain ⟨-, cs2, hc⟩ := hll.blk hq.symm
    exact ht (hk.uniq hc)
  have kx' : Bk w' gx 26 #[v] := hk _ _ kx9 (nv kx9 (by decide))
  have km' : Bk w' w.heap.size 3 #[.int .i64 most] := hk _ _ km9 (nv km9 (by decide))
  have hvb : ∀ j, v'.ownBlock = some j → gx ≠ j := fun j hj => by
    rintro rfl
    obtain ⟨-, cs2, hc⟩ := hll'.blk hj
    exact absurd (kx'.uniq hc) (by decide)
  refine ⟨v', w', hr, fv, kx', ⟨Bk.far km' (by show w.heap.size ≠ gx; omega) _, by simpa using Bk.set_ kx' 0 v', hll'.keep (fun j ob hj ho => Bk.far_any w' ho (hvb j hj) v') (fun j cs _ ho => Bk.far_any w' ho (by
    rintro rfl
    exact absurd (Bk.uniq kx' ho) (by decide)) v'), o1.st (p := ⟨gx, 0, none⟩) (by show w.heap.size ≤ gx; omega) _, far_app hP.far (sz := (w8.alloc (.cells #[u] 22)).heap.size) (by omega) hnew⟩, ?_⟩
  have b1 : Bod (rowT g ob) g W (w8.alloc (.cells #[u] 22)) := Bod.of_old o9
  have b2 : Bod (rowT g ob) g (w8.alloc (.cells #[u] 22)) w' := by
    refine ⟨hs, fun i ob' ho hx => hk i ob' ho fun hq => ?_⟩
    obtain ⟨hb, cs, hc⟩ := hll.blk hq.symm
    rw [show _ = _ from hc] at ho
    cases ho
    rcases hx with hx | hx
    · cases hx.2
    · rw [mine, rowT_no hobs hb (by decide) (.inl (hP.far i hq.symm))] at hx
      cases hx
  exact (b1.tr b2).st kx' (rowT_no hobs (by omega) (by decide) (.inr (by decide))) 0 v'
/-- One list grown, between two rows. -/
theorem ro_grow {w W w8 : World} {gx g gl m cap q : Nat} {ob : Option Nat} {most : Int} {LL : List (List Cel)} {u : Value} {us : List Value} {lastL xc : List Cel} {x : Value} (hP : RoI w gx g most LL (.slice (some ⟨gl, 0, none⟩) m cap) us W) (hobs : ∀ b, ob = some b → b < w.heap.size)
    (o : Old W w8) (hu : us[q]? = some u) (hl : LL[q]? = some lastL) (hin : OwnC W w.heap.size u lastL) (hx : Cels w8 x xc) (hlen : lastL.length + xc.length ≤ 1000) (ty : TypeId) :
    ∃ u' w' cur, (Builtin.append_ #[22, 22] ty #[u, x]).run Try.prog w8 = .ok u' w' ∧ (∃ A k c, u' = .slice A k c) ∧ Bk w' gx 26 #[.slice (some ⟨gl, 0, none⟩) m cap] ∧ Bk w' gl 22 cur ∧ (∀ v, w8.cell? ⟨gl, q, none⟩ = some v → w'.cell? ⟨gl, q, none⟩ = some v) ∧
      RoI w gx g most (LL.set q (lastL ++ xc)) (.slice (some ⟨gl, 0, none⟩) m cap) (us.set q u') (w'.setCell ⟨gl, q, none⟩ u') ∧ Bod (rowT g ob) g W (w'.setCell ⟨gl, q, none⟩ u') := by
  have hll := hP.ll.old o
  have hin8 := hin.old o
  obtain ⟨u', w', cur, hr, o1, hcur, hk0, hll', od', hk, hs, fu⟩ := ll_grow (hP.od.tr o) hll hu hl rfl hx (by omega) ty
  obtain ⟨hbg, cs8, hc8⟩ := hll.blk (j := gl) rfl
  have km8 := hP.km.old o
  have kx8 := hP.kx.old o
  have ne1 : ∀ {j : Nat} {t : TypeId} {cs : Array Value}, Bk w8 j t cs → t ≠ 22 → j ≠ gl := fun hk' ht hq => by
    subst hq
    exact ht (Bk.uniq hk' hc8)
  refine ⟨u', w', cur, hr, fu, hk0 _ _ kx8 (hin8.not kx8 (by decide)), hcur, fun v hv => ?_, ⟨hk _ _ km8 (ne1 km8 (by decide)) (hin8.not km8 (by decide)), hk _ _ kx8 (ne1 kx8 (by decide)) (hin8.not kx8 (by decide)), hll', od', hP.far⟩, ?_⟩
  · rw [Bk.cell (hk0 _ _ hc8 (hin8.not hc8 (by decide))), ← Bk.cell hc8]
    exact hv
  · exact (Bod.of_old o).tr (bod_of hc8 (rowT_no hobs hbg (by decide) (.inl (hP.far gl rfl))) (fun j hj => ⟨(hin8.blk hj).2, rowT_no hobs (hin8.blk hj).1 (by decide) (.inr (by decide))⟩) hk hs)

set_option maxRecDepth 100000 in
set_option maxHeartbeats 8000000 in
theorem roll_in (n : Nat) (hn : 3 ≤ n) (w : World) (v : Value) (l : List Cel) (h : Cels w v l) (hl : l.length ≤ 1000) (most : Int) (hmost : most ≤ 9223372036854775807) :
    CallsIn Fence.wide n Try.prog 18 #[v, .int .i64 most] w fun e W' => ∃ u us, e = .returned (.tuple #[u, .int .i64 (rollE l most)]) ∧ OwnLL W' w.heap.size u us (rollV l most) ∧ Old w W' := by
  have h1 : 1 ≤ n := by omega
  obtain ⟨A, cap, rfl, hc⟩ := h.form
  have oA : Old w (w.alloc (.cells #[.int .i64 most] 3)) := old_alloc _ _
  have kA := new_bk w 3 #[.int .i64 most]
  have HI := Lib.hid h
  clear h
  refine callsIn_of_wp_marks Try.func18 rfl trivial ?_ rfl
  simp only [Try.ntmps18, List.size_toArray, List.length_cons, List.length_nil, Nat.reduceAdd, Nat.reduceSub, Array.replicate_succ, Array.replicate_zero, List.push_toArray, List.append_toArray, List.nil_append, List.cons_append]
  by_cases hm : most < 1
  · have HE := Lib.hid (show rollE l most = 1 ∧ rollV l most = [] by simp [rollE, rollV, hm])
    clear kA
    gi_wp2
    exact ⟨_, results_tmp2 rfl _ _ _, .slice none 0 0, [], by rw [HE.out.1]; rfl, by rw [HE.out.2]; exact OwnLL.nil _ _, oA⟩
  · have CR := rising_at _ l _ hl (HI.out.old oA)
    gi_wp2_with fail
    refine ⟨trivial, (callsIn_wide.2 CR).mono ?_⟩
    clear CR
    rintro e w2 ⟨rfl, o3⟩
    have o4 := oA.tr o3
    have kA2 := kA.old o3
    clear kA oA o3
    cases hr : rising l with
    | false =>
      have HE := Lib.hid (roll_e40 (most := most) (by omega) hr)
      clear hr
      gi_wp2
      exact ⟨_, results_tmp2 rfl _ _ _, .slice none 0 0, [], by rw [HE.out.1]; rfl, by rw [HE.out.2]; exact OwnLL.nil _ _, o4⟩
    | true =>
      have HE := Lib.hid (roll_e0 (most := most) (by omega) hr)
      have HU := Lib.hid (rising_rows l hr)
      clear hr
      obtain ⟨b0, off0, ob, hA, hcs, hob, hobs, hb0⟩ := cels_place HI.out
      gi_wp2_with (refine ⟨trivial, ?_⟩; gi_at_call 25; refine (rows_in (n - 1) _ _ _ _ rfl _).mono ?_; rintro e w' ⟨rfl, rfl⟩)
      have t1 := (new_bk w2 26 #[.slice none 0 0]).alloc (.cells #[.slice A l.length cap] 22)
      have t2 := new_bk (w2.alloc (.cells #[.slice none 0 0] 26)) 22 #[.slice A l.length cap]
      have ox : Old w2 ((w2.alloc (.cells #[.slice none 0 0] 26)).alloc (.cells #[.slice A l.length cap] 22)) := ((Old.re _).al _).al _
      have hsz : ((w2.alloc (.cells #[.slice none 0 0] 26)).alloc (.cells #[.slice A l.length cap] 22)).heap.size = w2.heap.size + 1 + 1 := by simp
      simp only [World.size_alloc] at t2
      have km := kA2.old ox
      have hlw := kA2.lt
      have o5 := o4.tr ox
      generalize ((w2.alloc (.cells #[.slice none 0 0] 26)).alloc (.cells #[.slice A l.length cap] 22)) = W0 at *
      clear ox kA2
      have hg1 : w.heap.size < W0.heap.size := by omega
      have hg2 : w2.heap.size < W0.heap.size := by omega
      have hlw' : w.heap.size < w2.heap.size := hlw
      have hts := rows_tells (n - 1) (by omega) (w2.heap.size + 1) b0 off0 cap l A (by omega) hc hA HU.out W0 (by omega) ob hob t2 (fun h => (hcs h).old o5)
      have HG := Lib.hid (show ∀ x ∈ grps 0 l, GrpIn l x from grps_in 0 l l rfl (Nat.zero_le _))
      have HCS := Lib.hid hcs
      have hgl := grps_len 0 l
      clear t2 hA hcs hob
      refine range_its (encs := encG b0 off0 cap) (T := rowT W0.heap.size ob) (L := grps 0 l) rfl h1 (gf := 32) (lb := #[.pointer (some ⟨w2.heap.size + 1, 0, none⟩)]) rfl trivial (enters_of Try.func32 (by kernel_rfl) rfl)
        hts (fun _ => rfl)
        (fun k W => ∃ v us, RoI w w2.heap.size W0.heap.size most (rollG most (((grps 0 l).take k).map (fun x : Grp => x.cs))) v us W) (fun _ _ _ => False)
        (fun _ _ _ i ⟨v, us, h⟩ => ⟨v, us, h.its i hobs hg1 hg2⟩) (fun _ _ _ _ _ h => h)
        ⟨_, [], km, t1, OwnLL.nil _ _, o5, fun j hj => by cases hj⟩
        (fun k x a' W => W0.heap.size + 3 ≤ W.heap.size ∧ (∃ v us, RoI w w2.heap.size W0.heap.size most (rollG most (((grps 0 l).take k).map (fun x : Grp => x.cs))) v us W) ∧ a' = { tmps := List.toArray (α := Value) ((.slice A l.length cap) :: (.int .i64 most) :: undef :: (.pointer (some ⟨w.heap.size, 0, none⟩)) :: (.slice none 0 0) :: (.int .i64 0) :: (.pointer (some ⟨w2.heap.size, 0, none⟩)) :: undef :: (.slice (some ⟨b0, off0 + x.s * 6, none⟩) x.cs.length (cap - x.s)) :: undef :: (.int .i64 most) :: (.bool false) :: (.slice A l.length cap) :: (.bool true) :: (.bool false) :: (.slice A l.length cap) :: (.func (.func 32) #[] #[.pointer (some ⟨w2.heap.size + 1, 0, none⟩)]) :: (.string (B x.row)) :: (.slice (some ⟨b0, off0 + x.s * 6, none⟩) x.cs.length (cap - x.s)) :: undef :: undef :: undef :: undef :: undef :: undef :: undef :: undef :: undef :: undef :: undef :: undef :: undef :: undef :: undef :: undef :: undef :: undef :: undef :: undef :: undef :: undef :: undef :: undef :: undef :: undef :: undef :: undef :: undef :: undef :: undef :: undef :: []), defers := [] })
        ?ax ?assign ?body ?done ?stop
      case ax =>
        rintro k x a' W l o o' hl ho hc ⟨h3, ⟨v, us, hP⟩, rfl⟩
        exact ⟨by rw [World.putObj_size]; exact h3, ⟨v, us, hP.its (.put _ hl ho hc) hobs hg1 hg2⟩, rfl⟩
      case assign =>
        intro l k x W K hx h3 hP hK
        dsimp only [encG]
        gi_wp2
        exact hK _ _ (Bod.re _ _ _) ⟨h3, hP, rfl⟩
      case body =>
        rintro l' k x a' W hx ⟨h3, ⟨v, us, hP⟩, rfl⟩
        have hn2 : 1 ≤ n - 1 - 1 := by omega
        have GI := HG.out x (List.mem_of_getElem? hx)
        have hxs : (grps 0 l).take (k + 1) = (grps 0 l).take k ++ [x] := (take_at hx).symm
        have hne : l ≠ [] := by
          rintro rfl
          rw [grps_nil] at hx
          simp at hx
        have hrs : rollG most (((grps 0 l).take (k + 1)).map (fun x : Grp => x.cs)) = rollStep most (rollG most (((grps 0 l).take k).map (fun x : Grp => x.cs))) x.cs := by
          rw [hxs, List.map_append]
          exact rollG_snoc most _ _
        have hfl : (rollG most (((grps 0 l).take k).map (fun x : Grp => x.cs))).flatten.length + x.cs.length ≤ l.length := by
          rw [rollG_flat, ← List.flatMap_def]
          have h9 := congrArg List.length (grps_flat 0 l)
          rw [← List.take_append_drop (k + 1) (grps 0 l), hxs] at h9
          simp only [List.flatMap_append, List.length_append, List.flatMap_cons, List.flatMap_nil, List.append_nil] at h9
          omega
        have hLn : (rollG most (((grps 0 l).take k).map (fun x : Grp => x.cs))).length ≤ l.length := by
          have := rollG_len most (((grps 0 l).take k).map (fun x : Grp => x.cs))
          rw [List.length_map, List.length_take] at this
          omega
        have HPC := Lib.hid (fun (Z : World) (o : Old w Z) => part_cels GI ((HCS.out hne).old o) hc)
        have HRS := Lib.hid hrs
        generalize rollG most (((grps 0 l).take k).map (fun x : Grp => x.cs)) = LL at *
        have hxc := GI.fits
        generalize x.cs = xc at *
        generalize x.s = xs at *
        clear hrs hxs hx hts GI HG HCS hne t1 km
        obtain ⟨A3, c3, rfl, hc3⟩ := hP.ll.form
        have cx := hP.kx.cell 0
        simp only [List.getElem?_toArray, List.getElem?_cons_zero] at cx
        have hcl := HPC.out W hP.od
        have hfr := hP.far
        by_cases h0 : LL.length = 0
        · have hnf : fits most LL xc = false := by unfold fits; rw [h0]; rfl
          have HST := Lib.hid (show rollStep most LL xc = LL ++ [xc] by unfold rollStep; rw [hnf]; rfl)
          rw [h0] at cx
          have hd1 : decide ((0 : Int) ≤ -1) = false := by decide
          have hw1 : IntKind.i64.wrap (-1) = -1 := by decide
          gi_wp2_with fail
          refine wpIn_region_quiet_round rfl (by kernel_rfl) (by kernel_rfl) (by kernel_rfl) ?_
          repeat (gi_big_quiet_step (fail))
          refine wpQuietIn_nil ?_
          intro _ hw'
          obtain ⟨nq, hw''⟩ := hw'
          subst hw''
          have oq : Old W (W.drewN nq) := (Old.re _).dn _
          generalize W.drewN nq = Wq at *
          have cx1 := ((hP.kx.old oq).drew).cell 0
          rw [h0] at cx1
          simp only [List.getElem?_toArray, List.getElem?_cons_zero] at cx1
          have HU := Lib.hid (fun (w8 : World) (u : Value) (o : Old Wq.drew w8) (hu : OwnC w8 Wq.drew.heap.size u xc) => ro_push hP h3 hlw' hobs (oq.dr.tr o) (hu.low oq.dr.size) (by omega) 26)
          have HC := Lib.hid (clone_any Wq.drew _ xc (hcl.old oq.dr) (by omega))
          rw [h0] at HU
          clear hd1 hw1 hP hcl cx hnf
          gi_wp2_with fail
          refine wpIn_region_round (by kernel_rfl) (by kernel_rfl) ?_
          refine wpAnyIn_take (i := 1) (v := ?_) rfl rfl (by kernel_rfl) (by kernel_rfl) (by kernel_rfl) (fun _ _ _ h => h) ⟨Or.inl ⟨by rfl, ?y1q10⟩, fun _ => rfl⟩ ?_
          case y1q10 => (intro w; go_simp; try with_reducible rfl)
          refine wpAnyIn_ready (rs := [0, 2]) (by kernel_rfl) (by simp) ?_
          refine AllReadyIn.cons rfl (fun K hK => ?_) ?_
          · go_simp
            refine hK _ _ ?_
            clear hK K
            refine wpAnyIn_ready (rs := [2]) (by kernel_rfl) (by simp) ?_
            refine AllReadyIn.cons rfl (fun K hK => ?_) ?_
            · go_simp
              refine ⟨trivial, (callsIn_wide.2 HC.out).mono ?_⟩
              rintro r w8 ⟨u, rfl, o8, hu8⟩
              refine hK _ _ ?_
              clear hK K
              obtain ⟨v2, w9, happ, ⟨A2, n2, c2, rfl⟩, kx9, hR9, hB9⟩ := HU.out w8 u o8 hu8
              obtain ⟨Au8, cu8, rfl, -⟩ := hu8.cels.form
              have cx2 := Bk.cell kx9 0
              have fx2 := Bk.fr kx9 0
              have cx3 := cell_old cx1 o8
              have cx4 := cell_old cx3 (old_alloc w8 (.cells #[.slice Au8 xc.length cu8] 22))
              simp only [List.getElem?_toArray, List.getElem?_cons_zero] at cx2
              clear hu8 kx9
              refine wpAnyIn_ready (rs := [3]) (by kernel_rfl) (by simp) ?_
              refine AllReadyIn.cons rfl (fun K hK => ?_) ?_
              · go_simp
                refine hK _ _ ?_
                clear hK K
                refine wpAnyIn_ready (rs := [4]) (by kernel_rfl) (by simp) ?_
                refine AllReadyIn.cons rfl (fun K hK => ?_) ?_
                · refine step_run rfl (.tmp 45) (.tmp 48) 26 rfl _ _ _ rfl rfl happ ?_
                  refine hK _ _ ?_
                  clear hK K
                  refine wpAnyIn_ready (rs := [5]) (by kernel_rfl) (by simp) ?_
                  refine AllReadyIn.cons rfl (fun K hK => ?_) ?_
                  · go_simp
                    refine hK _ _ ?_
                    clear hK K
                    refine wpAnyIn_done (by kernel_rfl) ?_ _
                    exact ⟨hB9, _, _, by rw [HRS.out, HST.out]; exact hR9⟩

                  exact AllReadyIn.nil

                exact AllReadyIn.nil

              exact AllReadyIn.nil

            exact AllReadyIn.nil

          refine AllReadyIn.cons rfl (fun K hK => ?_) ?_
          · go_simp
            refine ⟨trivial, (callsIn_wide.2 HC.out).mono ?_⟩
            rintro r w8 ⟨u, rfl, o8, hu8⟩
            refine hK _ _ ?_
            clear hK K
            obtain ⟨v2, w9, happ, ⟨A2, n2, c2, rfl⟩, kx9, hR9, hB9⟩ := HU.out w8 u o8 hu8
            obtain ⟨Au8, cu8, rfl, -⟩ := hu8.cels.form
            have cx2 := Bk.cell kx9 0
            have fx2 := Bk.fr kx9 0
            have cx3 := cell_old cx1 o8
            have cx4 := cell_old cx3 (old_alloc w8 (.cells #[.slice Au8 xc.length cu8] 22))
            simp only [List.getElem?_toArray, List.getElem?_cons_zero] at cx2
            clear hu8 kx9
            refine wpAnyIn_ready (rs := [0, 3]) (by kernel_rfl) (by simp) ?_
            refine AllReadyIn.cons rfl (fun K hK => ?_) ?_
            · go_simp
              refine hK _ _ ?_
              clear hK K
              refine wpAnyIn_ready (rs := [3]) (by kernel_rfl) (by simp) ?_
              refine AllReadyIn.cons rfl (fun K hK => ?_) ?_
              · go_simp
                refine hK _ _ ?_
                clear hK K
                refine wpAnyIn_ready (rs := [4]) (by kernel_rfl) (by simp) ?_
                refine AllReadyIn.cons rfl (fun K hK => ?_) ?_
                · refine step_run rfl (.tmp 45) (.tmp 48) 26 rfl _ _ _ rfl rfl happ ?_
                  refine hK _ _ ?_
                  clear hK K
                  refine wpAnyIn_ready (rs := [5]) (by kernel_rfl) (by simp) ?_
                  refine AllReadyIn.cons rfl (fun K hK => ?_) ?_
                  · go_simp
                    refine hK _ _ ?_
                    clear hK K
                    refine wpAnyIn_done (by kernel_rfl) ?_ _
                    exact ⟨hB9, _, _, by rw [HRS.out, HST.out]; exact hR9⟩

                  exact AllReadyIn.nil

                exact AllReadyIn.nil

              exact AllReadyIn.nil

            refine AllReadyIn.cons rfl (fun K hK => ?_) ?_
            · go_simp
              refine hK _ _ ?_
              clear hK K
              refine wpAnyIn_ready (rs := [0]) (by kernel_rfl) (by simp) ?_
              refine AllReadyIn.cons rfl (fun K hK => ?_) ?_
              · go_simp
                refine hK _ _ ?_
                clear hK K
                refine wpAnyIn_ready (rs := [4]) (by kernel_rfl) (by simp) ?_
                refine AllReadyIn.cons rfl (fun K hK => ?_) ?_
                · refine step_run rfl (.tmp 45) (.tmp 48) 26 rfl _ _ _ rfl rfl happ ?_
                  refine hK _ _ ?_
                  clear hK K
                  refine wpAnyIn_ready (rs := [5]) (by kernel_rfl) (by simp) ?_
                  refine AllReadyIn.cons rfl (fun K hK => ?_) ?_
                  · go_simp
                    refine hK _ _ ?_
                    clear hK K
                    refine wpAnyIn_done (by kernel_rfl) ?_ _
                    exact ⟨hB9, _, _, by rw [HRS.out, HST.out]; exact hR9⟩

                  exact AllReadyIn.nil

                exact AllReadyIn.nil

              exact AllReadyIn.nil

            exact AllReadyIn.nil

          exact AllReadyIn.nil
        · obtain ⟨q, hq⟩ : ∃ q, LL.length = q + 1 := ⟨LL.length - 1, by omega⟩
          obtain ⟨lastL, hl⟩ : ∃ lastL, LL[q]? = some lastL := ⟨LL[q], List.getElem?_eq_getElem _⟩
          obtain ⟨gl, u, cur, rfl, hgb, hu, hin, hcur, hcu⟩ := hP.ll.at_ hl
          obtain ⟨Au, cu, rfl, -⟩ := hin.cels.form
          have cm := hP.km.cell 0
          simp only [List.getElem?_toArray, List.getElem?_cons_zero] at cm
          have hll1 : lastL.length ≤ LL.flatten.length := by
            exact mem_len (List.mem_of_getElem? hl)
          have HQ := Lib.hid hq
          rw [hq] at cx
          have i1 : (0 : Int) ≤ (q : Int) := by omega
          have i2 : (q : Int) < (q : Int) + 1 := by omega
          have i3 : (lastL.length : Int) + (xc.length : Int) ≤ 1000 := by omega
          by_cases hf : (lastL.length : Int) + (xc.length : Int) ≤ most
          · have hnf : fits most LL xc = true := by
              unfold fits
              rw [hq, Nat.add_sub_cancel, hl]
              simp [hf]
            have HST := Lib.hid (show rollStep most LL xc = LL.set q (lastL ++ xc) by unfold rollStep; rw [hnf, hq, Nat.add_sub_cancel, hl]; rfl)
            have hd2 : decide ((lastL.length : Int) + (xc.length : Int) ≤ most) = true := by simpa using hf
            gi_wp2_with fail
            refine wpIn_region_quiet_round rfl (by kernel_rfl) (by kernel_rfl) (by kernel_rfl) ?_
            repeat (gi_big_quiet_step (fail))
            refine wpQuietIn_nil ?_
            intro _ hw'
            obtain ⟨nq, hw''⟩ := hw'
            subst hw''
            have oq : Old W (W.drewN nq) := (Old.re _).dn _
            generalize W.drewN nq = Wq at *
            have cx1 := ((hP.kx.old oq).drew).cell 0
            rw [hq] at cx1
            simp only [List.getElem?_toArray, List.getElem?_cons_zero] at cx1
            have c3 := cell_old hcu oq.dr
            obtain ⟨u', w4, cur4, happ, ⟨Au', nu', cu', rfl⟩, kx4, hb4, hc4, hR4, hB4⟩ := ro_grow hP hobs oq.dr hu hl hin (hcl.old oq.dr) (by omega) 22
            have c2 := kx4.cell 0
            have f2 := Bk.fr hb4 q
            have c4 := hc4 _ c3
            rw [hq] at c2
            simp only [List.getElem?_toArray, List.getElem?_cons_zero] at c2
            have HZ := Lib.hid (And.intro hR4 hB4)
            clear hP hcl cx hnf hd2 hR4 hB4 kx4 hb4 hc4 hin hcur hcu hf hll1 hfl hLn hq
            gi_wp2_with fail
            refine wpIn_region_round (by kernel_rfl) (by kernel_rfl) ?_
            refine wpAnyIn_take (i := 1) (v := ?_) rfl rfl (by kernel_rfl) (by kernel_rfl) (by kernel_rfl) (fun _ _ _ h => h) ⟨Or.inl ⟨by rfl, ?y1q1⟩, fun _ => rfl⟩ ?_
            case y1q1 => (intro w; go_simp; try with_reducible rfl)
            refine wpAnyIn_take (i := 3) (v := ?_) rfl rfl (by kernel_rfl) (by kernel_rfl) (by kernel_rfl) (fun _ _ _ h => h) ⟨Or.inl ⟨by rfl, ?y3q2⟩, fun _ => rfl⟩ ?_
            case y3q2 => (intro w; go_simp; try with_reducible rfl)
            refine wpAnyIn_take (i := 6) (v := ?_) rfl rfl (by kernel_rfl) (by kernel_rfl) (by kernel_rfl) (fun _ _ _ h => h) ⟨Or.inl ⟨by rfl, ?y6q3⟩, fun _ => rfl⟩ ?_
            case y6q3 => (intro w; go_simp; try with_reducible rfl)
            refine wpAnyIn_ready (rs := [0, 2]) (by kernel_rfl) (by simp) ?_
            refine AllReadyIn.cons rfl (fun K hK => ?_) ?_
            · go_simp
              refine hK _ _ ?_
              clear hK K
              refine wpAnyIn_ready (rs := [2]) (by kernel_rfl) (by simp) ?_
              refine AllReadyIn.cons rfl (fun K hK => ?_) ?_
              · go_simp
                refine hK _ _ ?_
                clear hK K
                refine wpAnyIn_take (i := 4) (v := ?_) rfl rfl (by kernel_rfl) (by kernel_rfl) (by kernel_rfl) (fun _ _ _ h => h) ⟨Or.inl ⟨by rfl, ?y4q4⟩, fun _ => rfl⟩ ?_
                case y4q4 => (intro w; go_simp; try with_reducible rfl)
                refine wpAnyIn_ready (rs := [5]) (by kernel_rfl) (by simp) ?_
                refine AllReadyIn.cons rfl (fun K hK => ?_) ?_
                · go_simp
                  refine hK _ _ ?_
                  clear hK K
                  refine wpAnyIn_ready (rs := [7]) (by kernel_rfl) (by simp) ?_
                  refine AllReadyIn.cons rfl (fun K hK => ?_) ?_
                  · refine step_run rfl (.tmp 41) (.tmp 42) 22 rfl _ _ _ rfl rfl happ ?_
                    refine hK _ _ ?_
                    clear hK K
                    refine wpAnyIn_take (i := 8) (v := ?_) rfl rfl (by kernel_rfl) (by kernel_rfl) (by kernel_rfl) (fun _ _ _ h => h) ⟨Or.inl ⟨by rfl, ?y8q5⟩, fun _ => rfl⟩ ?_
                    case y8q5 => (intro w; go_simp; try with_reducible rfl)
                    refine wpAnyIn_ready (rs := [9]) (by kernel_rfl) (by simp) ?_
                    refine AllReadyIn.cons rfl (fun K hK => ?_) ?_
                    · go_simp
                      refine hK _ _ ?_
                      clear hK K
                      refine wpAnyIn_done (by kernel_rfl) ?_ _
                      exact ⟨HZ.out.2, _, _, by rw [HRS.out, HST.out]; exact HZ.out.1⟩

                    exact AllReadyIn.nil

                  exact AllReadyIn.nil

                exact AllReadyIn.nil

              exact AllReadyIn.nil

            refine AllReadyIn.cons rfl (fun K hK => ?_) ?_
            · go_simp
              refine hK _ _ ?_
              clear hK K
              refine wpAnyIn_take (i := 4) (v := ?_) rfl rfl (by kernel_rfl) (by kernel_rfl) (by kernel_rfl) (fun _ _ _ h => h) ⟨Or.inl ⟨by rfl, ?y4q6⟩, fun _ => rfl⟩ ?_
              case y4q6 => (intro w; go_simp; try with_reducible rfl)
              refine wpAnyIn_ready (rs := [0, 5]) (by kernel_rfl) (by simp) ?_
              refine AllReadyIn.cons rfl (fun K hK => ?_) ?_
              · go_simp
                refine hK _ _ ?_
                clear hK K
                refine wpAnyIn_ready (rs := [5]) (by kernel_rfl) (by simp) ?_
                refine AllReadyIn.cons rfl (fun K hK => ?_) ?_
                · go_simp
                  refine hK _ _ ?_
                  clear hK K
                  refine wpAnyIn_ready (rs := [7]) (by kernel_rfl) (by simp) ?_
                  refine AllReadyIn.cons rfl (fun K hK => ?_) ?_
                  · refine step_run rfl (.tmp 41) (.tmp 42) 22 rfl _ _ _ rfl rfl happ ?_
                    refine hK _ _ ?_
                    clear hK K
                    refine wpAnyIn_take (i := 8) (v := ?_) rfl rfl (by kernel_rfl) (by kernel_rfl) (by kernel_rfl) (fun _ _ _ h => h) ⟨Or.inl ⟨by rfl, ?y8q7⟩, fun _ => rfl⟩ ?_
                    case y8q7 => (intro w; go_simp; try with_reducible rfl)
                    refine wpAnyIn_ready (rs := [9]) (by kernel_rfl) (by simp) ?_
                    refine AllReadyIn.cons rfl (fun K hK => ?_) ?_
                    · go_simp
                      refine hK _ _ ?_
                      clear hK K
                      refine wpAnyIn_done (by kernel_rfl) ?_ _
                      exact ⟨HZ.out.2, _, _, by rw [HRS.out, HST.out]; exact HZ.out.1⟩

                    exact AllReadyIn.nil

                  exact AllReadyIn.nil

                exact AllReadyIn.nil

              refine AllReadyIn.cons rfl (fun K hK => ?_) ?_
              · go_simp
                refine hK _ _ ?_
                clear hK K
                refine wpAnyIn_ready (rs := [0, 7]) (by kernel_rfl) (by simp) ?_
                refine AllReadyIn.cons rfl (fun K hK => ?_) ?_
                · go_simp
                  refine hK _ _ ?_
                  clear hK K
                  refine wpAnyIn_ready (rs := [7]) (by kernel_rfl) (by simp) ?_
                  refine AllReadyIn.cons rfl (fun K hK => ?_) ?_
                  · refine step_run rfl (.tmp 41) (.tmp 42) 22 rfl _ _ _ rfl rfl happ ?_
                    refine hK _ _ ?_
                    clear hK K
                    refine wpAnyIn_take (i := 8) (v := ?_) rfl rfl (by kernel_rfl) (by kernel_rfl) (by kernel_rfl) (fun _ _ _ h => h) ⟨Or.inl ⟨by rfl, ?y8q8⟩, fun _ => rfl⟩ ?_
                    case y8q8 => (intro w; go_simp; try with_reducible rfl)
                    refine wpAnyIn_ready (rs := [9]) (by kernel_rfl) (by simp) ?_
                    refine AllReadyIn.cons rfl (fun K hK => ?_) ?_
                    · go_simp
                      refine hK _ _ ?_
                      clear hK K
                      refine wpAnyIn_done (by kernel_rfl) ?_ _
                      exact ⟨HZ.out.2, _, _, by rw [HRS.out, HST.out]; exact HZ.out.1⟩

                    exact AllReadyIn.nil

                  exact AllReadyIn.nil

                refine AllReadyIn.cons rfl (fun K hK => ?_) ?_
                · refine step_run rfl (.tmp 41) (.tmp 42) 22 rfl _ _ _ rfl rfl happ ?_
                  refine hK _ _ ?_
                  clear hK K
                  refine wpAnyIn_ready (rs := [0]) (by kernel_rfl) (by simp) ?_
                  refine AllReadyIn.cons rfl (fun K hK => ?_) ?_
                  · go_simp
                    refine hK _ _ ?_
                    clear hK K
                    refine wpAnyIn_take (i := 8) (v := ?_) rfl rfl (by kernel_rfl) (by kernel_rfl) (by kernel_rfl) (fun _ _ _ h => h) ⟨Or.inl ⟨by rfl, ?y8q9⟩, fun _ => rfl⟩ ?_
                    case y8q9 => (intro w; go_simp; try with_reducible rfl)
                    refine wpAnyIn_ready (rs := [9]) (by kernel_rfl) (by simp) ?_
                    refine AllReadyIn.cons rfl (fun K hK => ?_) ?_
                    · go_simp
                      refine hK _ _ ?_
                      clear hK K
                      refine wpAnyIn_done (by kernel_rfl) ?_ _
                      exact ⟨HZ.out.2, _, _, by rw [HRS.out, HST.out]; exact HZ.out.1⟩

                    exact AllReadyIn.nil

                  exact AllReadyIn.nil

                exact AllReadyIn.nil

              exact AllReadyIn.nil

            exact AllReadyIn.nil
          · have hnf : fits most LL xc = false := by
              unfold fits
              rw [hq, Nat.add_sub_cancel, hl]
              simp [hf]
            have HST := Lib.hid (show rollStep most LL xc = LL ++ [xc] by unfold rollStep; rw [hnf]; rfl)
            have hd2 : decide ((lastL.length : Int) + (xc.length : Int) ≤ most) = false := by simpa using hf
            gi_wp2_with fail
            refine wpIn_region_quiet_round rfl (by kernel_rfl) (by kernel_rfl) (by kernel_rfl) ?_
            repeat (gi_big_quiet_step (fail))
            refine wpQuietIn_nil ?_
            intro _ hw'
            obtain ⟨nq, hw''⟩ := hw'
            subst hw''
            have oq : Old W (W.drewN nq) := (Old.re _).dn _
            generalize W.drewN nq = Wq at *
            have cx1 := ((hP.kx.old oq).drew).cell 0
            rw [hq] at cx1
            simp only [List.getElem?_toArray, List.getElem?_cons_zero] at cx1
            have HU := Lib.hid (fun (w8 : World) (u : Value) (o : Old Wq.drew w8) (hu : OwnC w8 Wq.drew.heap.size u xc) => ro_push hP h3 hlw' hobs (oq.dr.tr o) (hu.low oq.dr.size) (by omega) 26)
            have HC := Lib.hid (clone_any Wq.drew _ xc (hcl.old oq.dr) (by omega))
            rw [hq] at HU
            clear hd2 hP hcl cx hnf hin hcur hcu hf hll1 hfl hLn hq cm
            gi_wp2_with fail
            refine wpIn_region_round (by kernel_rfl) (by kernel_rfl) ?_
            refine wpAnyIn_take (i := 1) (v := ?_) rfl rfl (by kernel_rfl) (by kernel_rfl) (by kernel_rfl) (fun _ _ _ h => h) ⟨Or.inl ⟨by rfl, ?y1q10⟩, fun _ => rfl⟩ ?_
            case y1q10 => (intro w; go_simp; try with_reducible rfl)
            refine wpAnyIn_ready (rs := [0, 2]) (by kernel_rfl) (by simp) ?_
            refine AllReadyIn.cons rfl (fun K hK => ?_) ?_
            · go_simp
              refine hK _ _ ?_
              clear hK K
              refine wpAnyIn_ready (rs := [2]) (by kernel_rfl) (by simp) ?_
              refine AllReadyIn.cons rfl (fun K hK => ?_) ?_
              · go_simp
                refine ⟨trivial, (callsIn_wide.2 HC.out).mono ?_⟩
                rintro r w8 ⟨u, rfl, o8, hu8⟩
                refine hK _ _ ?_
                clear hK K
                obtain ⟨v2, w9, happ, ⟨A2, n2, c2, rfl⟩, kx9, hR9, hB9⟩ := HU.out w8 u o8 hu8
                obtain ⟨Au8, cu8, rfl, -⟩ := hu8.cels.form
                have cx2 := Bk.cell kx9 0
                have fx2 := Bk.fr kx9 0
                have cx3 := cell_old cx1 o8
                have cx4 := cell_old cx3 (old_alloc w8 (.cells #[.slice Au8 xc.length cu8] 22))
                simp only [List.getElem?_toArray, List.getElem?_cons_zero] at cx2
                clear hu8 kx9
                refine wpAnyIn_ready (rs := [3]) (by kernel_rfl) (by simp) ?_
                refine AllReadyIn.cons rfl (fun K hK => ?_) ?_
                · go_simp
                  refine hK _ _ ?_
                  clear hK K
                  refine wpAnyIn_ready (rs := [4]) (by kernel_rfl) (by simp) ?_
                  refine AllReadyIn.cons rfl (fun K hK => ?_) ?_
                  · refine step_run rfl (.tmp 45) (.tmp 48) 26 rfl _ _ _ rfl rfl happ ?_
                    refine hK _ _ ?_
                    clear hK K
                    refine wpAnyIn_ready (rs := [5]) (by kernel_rfl) (by simp) ?_
                    refine AllReadyIn.cons rfl (fun K hK => ?_) ?_
                    · go_simp
                      refine hK _ _ ?_
                      clear hK K
                      refine wpAnyIn_done (by kernel_rfl) ?_ _
                      exact ⟨hB9, _, _, by rw [HRS.out, HST.out]; exact hR9⟩

                    exact AllReadyIn.nil

                  exact AllReadyIn.nil

                exact AllReadyIn.nil

              exact AllReadyIn.nil

            refine AllReadyIn.cons rfl (fun K hK => ?_) ?_
            · go_simp
              refine ⟨trivial, (callsIn_wide.2 HC.out).mono ?_⟩
              rintro r w8 ⟨u, rfl, o8, hu8⟩
              refine hK _ _ ?_
              clear hK K
              obtain ⟨v2, w9, happ, ⟨A2, n2, c2, rfl⟩, kx9, hR9, hB9⟩ := HU.out w8 u o8 hu8
              obtain ⟨Au8, cu8, rfl, -⟩ := hu8.cels.form
              have cx2 := Bk.cell kx9 0
              have fx2 := Bk.fr kx9 0
              have cx3 := cell_old cx1 o8
              have cx4 := cell_old cx3 (old_alloc w8 (.cells #[.slice Au8 xc.length cu8] 22))
              simp only [List.getElem?_toArray, List.getElem?_cons_zero] at cx2
              clear hu8 kx9
              refine wpAnyIn_ready (rs := [0, 3]) (by kernel_rfl) (by simp) ?_
              refine AllReadyIn.cons rfl (fun K hK => ?_) ?_
              · go_simp
                refine hK _ _ ?_
                clear hK K
                refine wpAnyIn_ready (rs := [3]) (by kernel_rfl) (by simp) ?_
                refine AllReadyIn.cons rfl (fun K hK => ?_) ?_
                · go_simp
                  refine hK _ _ ?_
                  clear hK K
                  refine wpAnyIn_ready (rs := [4]) (by kernel_rfl) (by simp) ?_
                  refine AllReadyIn.cons rfl (fun K hK => ?_) ?_
                  · refine step_run rfl (.tmp 45) (.tmp 48) 26 rfl _ _ _ rfl rfl happ ?_
                    refine hK _ _ ?_
                    clear hK K
                    refine wpAnyIn_ready (rs := [5]) (by kernel_rfl) (by simp) ?_
                    refine AllReadyIn.cons rfl (fun K hK => ?_) ?_
                    · go_simp
                      refine hK _ _ ?_
                      clear hK K
                      refine wpAnyIn_done (by kernel_rfl) ?_ _
                      exact ⟨hB9, _, _, by rw [HRS.out, HST.out]; exact hR9⟩

                    exact AllReadyIn.nil

                  exact AllReadyIn.nil

                exact AllReadyIn.nil

              refine AllReadyIn.cons rfl (fun K hK => ?_) ?_
              · go_simp
                refine hK _ _ ?_
                clear hK K
                refine wpAnyIn_ready (rs := [0]) (by kernel_rfl) (by simp) ?_
                refine AllReadyIn.cons rfl (fun K hK => ?_) ?_
                · go_simp
                  refine hK _ _ ?_
                  clear hK K
                  refine wpAnyIn_ready (rs := [4]) (by kernel_rfl) (by simp) ?_
                  refine AllReadyIn.cons rfl (fun K hK => ?_) ?_
                  · refine step_run rfl (.tmp 45) (.tmp 48) 26 rfl _ _ _ rfl rfl happ ?_
                    refine hK _ _ ?_
                    clear hK K
                    refine wpAnyIn_ready (rs := [5]) (by kernel_rfl) (by simp) ?_
                    refine AllReadyIn.cons rfl (fun K hK => ?_) ?_
                    · go_simp
                      refine hK _ _ ?_
                      clear hK K
                      refine wpAnyIn_done (by kernel_rfl) ?_ _
                      exact ⟨hB9, _, _, by rw [HRS.out, HST.out]; exact hR9⟩

                    exact AllReadyIn.nil

                  exact AllReadyIn.nil

                exact AllReadyIn.nil

              exact AllReadyIn.nil

            exact AllReadyIn.nil
      case done =>
        rintro D W hD ⟨v, us, hP⟩ hK
        have cb := hP.kx.cell 0
        simp only [List.getElem?_toArray, List.getElem?_cons_zero] at cb
        obtain ⟨A3, c3, rfl, hc3⟩ := hP.ll.form
        gi_wp2
        refine ⟨by simp, .inl ⟨_, _, rfl, run_takeDeferred hK, ?_⟩⟩
        have i2 : Its (rowT W0.heap.size ob) W0.heap.size W (W.putObj D (.deferred none)) := .put _ hD hK rfl
        have h2 := hP.its i2 hobs hg1 hg2
        have hll := h2.ll
        rw [List.take_length] at hll
        exact ⟨_, results_tmp2 rfl _ _ _, _, us, by rw [HE.out.1]; rfl, by rw [HE.out.2]; exact hll, h2.od⟩
      case stop =>
        rintro D c k W _ _ h _
        exact h.elim
end Go.Proofs.Ytohokmfbcehkgaa
