/-
  Roll of the reference. Conditions: lengths as written.
-/
import Derived.Test.YtohokmfbcehkgaaCRsp
namespace Go.Proofs.Ytohokmfbcehkgaa
open Go.RowKit Go.Shelf

theorem wp_push {ops : Array Oper} {rest : List Oper} {op : Oper} {a : Act} {Q : Exit → Act → World → Prop} {W0 w : World} (hgd : op.guard = none) (s x : Operand)
    (ho : op.op = .call { callee := .builtin .append, args := #[s, x], argTypes := #[26, 26] })
    (o : Old W0 w) (v : Value) (us : List Value) (LL : List (List Cel)) (hs : a.eval s = v) (h : OwnLL w W0.heap.size v us LL) (u : Value) (l : List Cel) (hu : OwnC w W0.heap.size u l) (hap : ∀ (j : Nat) (u' : Value) (b : Nat), us[j]? = some u' → u'.ownBlock = some b → u.ownBlock = some b → False)
    (ga : Nat) (hx : a.eval x = .slice (some ⟨ga, 0, none⟩) 1 1) (hga : Bk w ga 22 #[u]) (hlen : LL.length ≤ 1000000)
    (hk : ∀ v' w', OwnLL w' W0.heap.size v' (us ++ [u]) (LL ++ [l]) → Old W0 w' → wpList Try.prog ops Q rest (a.put op.dst v') w') : wpList Try.prog ops Q (op :: rest) a w := by
  obtain ⟨v', w', hr, h2, h3, -⟩ := ll_push o h hu hap ga hga hlen op.type
  refine wpList_plain hgd fun K hK => ?_
  unfold Oper.wp execOp
  simp only [ho, resolve, invoke, builtin, Sem.run_bind, Sem.run_pure, Result.andThen_ok, List.map_toArray, List.map_cons, List.map_nil, hs, hx, hr]
  exact hK _ _ (hk v' w' h3 h2)

/-- The lists so far, and the one under way. -/
def Now (most : Int) (gs : List (List Cel)) (LLo : List (List Cel)) (now : List Cel) : Prop := (now = [] → LLo = []) ∧ rollG most gs = (if now = [] then [] else LLo ++ [now])
theorem Now.nil (most : Int) : Now most [] [] [] := ⟨fun _ => rfl, rfl⟩
theorem now_fits {most : Int} {gs LLo : List (List Cel)} {now g : List Cel} (h : Now most gs LLo now) (hg : g ≠ []) (hf : now = [] ∨ (now.length : Int) + (g.length : Int) ≤ most) : Now most (gs ++ [g]) LLo (now ++ g) := by
  refine ⟨fun h0 => absurd (List.append_eq_nil_iff.1 h0).2 hg, ?_⟩
  rw [rollG_snoc, h.2, if_neg (fun h0 => absurd (List.append_eq_nil_iff.1 h0).2 hg)]
  by_cases hn : now = []
  · rw [if_pos hn, h.1 hn, hn]
    rfl
  · rw [if_neg hn]
    have hf2 := hf.resolve_left hn
    have e : fits most (LLo ++ [now]) g = true := by
      unfold fits
      simp [hf2]
    unfold rollStep
    rw [e]
    simp
theorem now_full {most : Int} {gs LLo : List (List Cel)} {now g : List Cel} (h : Now most gs LLo now) (hg : g ≠ []) (hn : now ≠ []) (hf : ¬ (now.length : Int) + (g.length : Int) ≤ most) : Now most (gs ++ [g]) (LLo ++ [now]) g := by
  refine ⟨fun h0 => absurd h0 hg, ?_⟩
  rw [rollG_snoc, h.2, if_neg hg, if_neg hn]
  have e : fits most (LLo ++ [now]) g = false := by
    unfold fits
    simp
    omega
  unfold rollStep
  rw [e]
  rfl
/-- The lists so far, and the one under way, in memory. -/
structure RrM (w : World) (ov nv : Value) (us : List Value) (LLo : List (List Cel)) (now : List Cel) (Z : World) : Prop where
  od : Old w Z
  ll : OwnLL Z w.heap.size ov us LLo
  nw : OwnC Z w.heap.size nv now
  ap : ∀ (j : Nat) (u' : Value) (b : Nat), us[j]? = some u' → u'.ownBlock = some b → nv.ownBlock = some b → False
theorem RrM.old {w Z Z' : World} {ov nv : Value} {us : List Value} {LLo : List (List Cel)} {now : List Cel} (h : RrM w ov nv us LLo now Z) (o : Old Z Z') : RrM w ov nv us LLo now Z' :=
  ⟨h.od.tr o, h.ll.old o, h.nw.old o, h.ap⟩
theorem OwnLL.lt {w : World} {base : Nat} {v : Value} {us : List Value} {LL : List (List Cel)} (h : OwnLL w base v us LL) {j b : Nat} {u : Value} (hu : us[j]? = some u) (hb : u.ownBlock = some b) : b < w.heap.size := by
  have hi := (List.getElem?_eq_some_iff.1 hu).1
  obtain ⟨l, hl⟩ : ∃ l, LL[j]? = some l := ⟨LL[j]'(by rw [← h.len]; exact hi), List.getElem?_eq_getElem _⟩
  obtain ⟨-, cs, hc⟩ := (h.inner j u l hu hl).blk hb
  exact (Array.getElem?_eq_some_iff.1 hc).1
theorem RrM.grow {w Z Z' : World} {ov nv nv' : Value} {us : List Value} {LLo : List (List Cel)} {now now' : List Cel} (h : RrM w ov nv us LLo now Z) (o : Old w Z') (hn : OwnC Z' w.heap.size nv' now') (hg : Z.grownBy Z' nv.ownBlock) (hf : nv'.ownBlock = nv.ownBlock ∨ nv'.ownBlock = some Z.heap.size) : RrM w ov nv' us LLo now' Z' := by
  have hk : ∀ (j : Nat) (ob : Obj), Z.heap[j]? = some ob → some j ≠ nv.ownBlock → Z'.heap[j]? = some ob := fun j ob hj hne => (hg.block j (Array.getElem?_eq_some_iff.1 hj).1 hne).trans hj
  refine ⟨o, ⟨?_, h.ll.len, fun i u l hu hl => (h.ll.inner i u l hu hl).keep fun b ob hb ho => hk b ob ho fun hq => h.ap i u b hu hb hq.symm, h.ll.apart⟩, hn, fun j u' b hj hb1 hb2 => ?_⟩
  · refine ⟨h.ll.outer.1, ?_⟩
    rcases h.ll.outer.2 with h1 | ⟨g, cap, cur, rfl, hb, hc, rest⟩
    · exact .inl h1
    · exact .inr ⟨g, cap, cur, rfl, hb, hk g _ hc (h.nw.not hc (by decide)), rest⟩
  · rcases hf with hf | hf
    · exact h.ap j u' b hj hb1 (by rw [← hf]; exact hb2)
    · have h1 := h.ll.lt hj hb1
      rw [hf] at hb2
      have : Z.heap.size = b := by simpa using hb2
      omega
/-- What the loop over rows holds. -/
structure RrI (w : World) (most : Int) (l : List Cel) (k s : Nat) (ov nv : Value) (us : List Value) (LLo : List (List Cel)) (now : List Cel) (Z : World) : Prop where
  mem : RrM w ov nv us LLo now Z
  gd : (grps 0 l).drop k = grps s (l.drop s)
  eq : Now most (((grps 0 l).take k).map (fun x : Grp => x.cs)) LLo now
  len : LLo.length + now.length ≤ s ∧ s ≤ l.length
theorem Cels.ats {w : World} {b off n cap : Nat} {l : List Cel} (h : Cels w (.slice (some ⟨b, off, none⟩) n cap) l) (hl : l ≠ []) : CelsAt w b off l := by
  rcases h with ⟨h1, -⟩ | ⟨A', cap', h1, h2, h3⟩
  · cases h1
  · obtain ⟨b', off', rfl, k⟩ := h3 hl
    injection h1 with e1 e2 e3
    simp only [Option.some.injEq, Addr.mk.injEq, and_true] at e1
    obtain ⟨rfl, rfl⟩ := e1
    exact k
/-- One row more. -/
theorem rr_step {most : Int} {l : List Cel} {k s m : Nat} {LLo : List (List Cel)} {now : List Cel} {c : Cel} {t : List Cel} (gd : (grps 0 l).drop k = grps s (l.drop s)) (hT : l.drop s = c :: t) (hm : m = 1 + (t.takeWhile (sameR c.row)).length) (eq : Now most (((grps 0 l).take k).map (fun x : Grp => x.cs)) LLo now) :
    (grps 0 l).drop (k + 1) = grps (s + m) (l.drop (s + m)) ∧ (c :: t).take m = c :: t.takeWhile (sameR c.row) ∧
    ((now = [] ∨ (now.length : Int) + (m : Int) ≤ most) → Now most (((grps 0 l).take (k + 1)).map (fun x : Grp => x.cs)) LLo (now ++ (c :: t).take m)) ∧
    (now ≠ [] → ¬ (now.length : Int) + (m : Int) ≤ most → Now most (((grps 0 l).take (k + 1)).map (fun x : Grp => x.cs)) (LLo ++ [now]) ((c :: t).take m)) := by
  have h2 := gd
  rw [hT, grps_cons] at h2
  have htk : (c :: t).take m = c :: t.takeWhile (sameR c.row) := by
    rw [hm, Nat.add_comm 1, List.take_succ_cons, ← tw_take]
  have hx : (grps 0 l)[k]? = some ⟨s, c.row, c :: t.takeWhile (sameR c.row)⟩ := by
    have h3 := congrArg (fun q => q[0]?) h2
    simpa using h3
  have hgs : ((grps 0 l).take (k + 1)).map (fun x : Grp => x.cs) = ((grps 0 l).take k).map (fun x : Grp => x.cs) ++ [(c :: t).take m] := by
    rw [← take_at hx, List.map_append, htk]
    rfl
  have hml : ((c :: t).take m).length = m := by rw [htk, hm]; simp; omega
  have hne : (c :: t).take m ≠ [] := by rw [htk]; simp
  refine ⟨?_, htk, fun hf => ?_, fun hn hf => ?_⟩
  · have h3 := congrArg (fun q => q.drop 1) h2
    simp only [List.drop_drop, List.drop_succ_cons, List.drop_zero] at h3
    rw [h3, tw_drop, hm, ← Nat.add_assoc]
    congr 1
    rw [Nat.add_assoc, ← List.drop_drop, hT, Nat.add_comm 1, List.drop_succ_cons]
  · rw [hgs]
    exact now_fits eq hne (by rw [hml]; exact hf)
  · rw [hgs]
    exact now_full eq hne hn (by rw [hml]; exact hf)

set_option maxRecDepth 100000 in
set_option maxHeartbeats 8000000 in
theorem rroll_any (w : World) (v : Value) (l : List Cel) (h : Cels w v l) (hl : l.length ≤ 1000) (most : Int) (hmost : most ≤ 9223372036854775807) :
    Calls Try.prog 19 #[v, .int .i64 most] w fun e W' => ∃ u us, e = .returned (.tuple #[u, .int .i64 (rollE l most)]) ∧ OwnLL W' w.heap.size u us (rollV l most) ∧ Old w W' := by
  obtain ⟨A, cap, rfl, hc⟩ := h.form
  have HI := Lib.hid h
  clear h
  by_cases hm : most < 1
  · have HE := Lib.hid (show rollE l most = 1 ∧ rollV l most = [] by simp [rollE, rollV, hm])
    go_enter Try.func19, Try.ntmps19
    go_wp2
    exact bodyPost_ret (results_tmp2 rfl _ _ _) rfl ⟨.slice none 0 0, [], by rw [HE.out.1]; rfl, by rw [HE.out.2]; exact OwnLL.nil _ _, Old.re _⟩
  · have CR := Lib.hid (rrising_at _ l w hl HI.out)
    go_enter Try.func19, Try.ntmps19
    go_wp2_with fail
    refine CR.out.mono ?_
    clear CR
    rintro e w2 ⟨rfl, o3⟩
    cases hr : rising l with
    | false =>
      have HE := Lib.hid (roll_e40 (most := most) (by omega) hr)
      clear hr
      go_wp2
      exact bodyPost_ret (results_tmp2 rfl _ _ _) rfl ⟨.slice none 0 0, [], by rw [HE.out.1]; rfl, by rw [HE.out.2]; exact OwnLL.nil _ _, o3⟩
    | true =>
      have HE := Lib.hid (roll_e0 (most := most) (by omega) hr)
      clear hr
      have hsz := o3.size
      have t0 := (new_bk w2 22 #[]).alloc (.cells #[] 50)
      have t1 := new_bk (w2.alloc (.cells #[] 22)) 50 #[]
      simp only [World.size_alloc] at t1
      have hR0 : RrI w most l 0 0 (.slice (some ⟨w2.heap.size, 0, none⟩) 0 0) (.slice (some ⟨w2.heap.size + 1, 0, none⟩) 0 0) [] [] [] ((w2.alloc (.cells #[] 22)).alloc (.cells #[] 50)) :=
        ⟨⟨(o3.al _).al _, OwnLL.empty t0 hsz, OwnC.empty t1 (by omega), fun j u' b hj => by simp at hj⟩, rfl, Now.nil most, by simp⟩
      have HR0 := Lib.hid hR0
      clear t0 t1 hR0 hsz
      go_wp2_with fail
      go_loopw [0, 6, 7] (fun lv ov nv wr => ∃ (k s : Nat) (A' : Option Addr) (c' : Nat) (us : List Value) (LLo : List (List Cel)) (now : List Cel), lv = .slice A' (l.length - s) c' ∧ s ≤ l.length ∧ (s < l.length → ∃ b off, A = some ⟨b, off, none⟩ ∧ A' = some ⟨b, off + s * 6, none⟩ ∧ c' = cap - s) ∧ Hid (RrI w most l k s ov nv us LLo now wr))
        (fun lv _ _ _ => match lv with | .slice _ q _ => q | _ => 0)
      case atStart => exact ⟨0, 0, A, cap, [], [], [], rfl, Nat.zero_le _, fun hs => by
        obtain ⟨b, off, rfl, -⟩ := HI.out.at_ (List.getElem?_eq_getElem hs)
        exact ⟨b, off, rfl, by simp, by simp⟩, HR0⟩
      case round =>
        obtain ⟨k, s, A', c', us, LLo, now, rfl, hs, hlt, HR⟩ := hrel
        obtain ⟨A6, c6, rfl, -⟩ := HR.out.mem.ll.form
        obtain ⟨A7, c7, rfl, -⟩ := HR.out.mem.nw.cels.form
        clear HR0
        by_cases h1 : s < l.length
        · obtain ⟨b, off, rfl, rfl, rfl⟩ := hlt h1
          obtain ⟨c, t, HT⟩ : ∃ c t, Hid (l.drop s = c :: t) := by
            cases hd : l.drop s with
            | nil => have := congrArg List.length hd; simp at this; omega
            | cons c t => exact ⟨c, t, Lib.hid rfl⟩
          have hlen : t.length + 1 = l.length - s := by have := congrArg List.length HT.out; simp at this; omega
          have HCS := Lib.hid (show CelsAt wr b (off + s * 6) (c :: t) by
            rw [← HT.out]
            exact ((HI.out.old HR.out.mem.od).ats (by rintro rfl; simp at h1)).drop_ s)
          obtain ⟨N, hN⟩ : ∃ N, N = l.length - s := ⟨_, rfl⟩
          have HN := Lib.hid hN
          rw [← hN] at hlen ⊢
          have hNl : N ≤ l.length := by omega
          have hNs : s + N = l.length := by omega
          clear hlt hN
          have i1 : (0 : Int) < (N : Int) := by omega
          go_wp2_with fail
          obtain ⟨wr0, hwr0⟩ : ∃ wr0, wr0 = wr := ⟨_, rfl⟩
          subst hwr0
          go_loopw [8] (fun mv wi => ∃ m : Nat, mv = .int .i64 (m : Int) ∧ 1 ≤ m ∧ m ≤ N ∧ Old wr0 wi ∧ Hid (m ≤ 1 + (t.takeWhile (sameR c.row)).length)) (fun mv _ => N - (intOf mv).toNat)
          case atStart => exact ⟨1, rfl, Nat.le_refl _, by omega, Old.re _, Lib.hid (by omega)⟩
          case round =>
            obtain ⟨m, rfl, hm1, hmN, oi, HM⟩ := hrel
            by_cases hmlt : m < N
            · obtain ⟨q, rfl⟩ : ∃ q, m = q + 1 := ⟨m - 1, by omega⟩
              obtain ⟨x, HX⟩ : ∃ x, Hid (t[q]? = some x) := ⟨t[q], Lib.hid (List.getElem?_eq_getElem (by omega))⟩
              have y0 := (HCS.out.old oi 0 c rfl).a0
              have y1 := (HCS.out.old oi (q + 1) x (by rw [List.getElem?_cons_succ]; exact HX.out)).a0
              rw [Nat.zero_mul, Nat.add_zero] at y0
              have d1 : decide ((q : Int) + 1 < (N : Int)) = true := by simp; omega
              have d0 : decide ((0 : Int) < (N : Int)) = true := by simp; omega
              have j1 : (0 : Int) ≤ (q : Int) + 1 := by omega
              have j2 : (q : Int) + 1 < (N : Int) := by omega
              have j3 : ((q : Int) + 1).toNat = q + 1 := by omega
              by_cases hrow : x.row = c.row
              · have HM2 := Lib.hid (show q + 1 + 1 ≤ 1 + (t.takeWhile (sameR c.row)).length by
                  rcases Nat.lt_or_ge q (t.takeWhile (sameR c.row)).length with g1 | g1
                  · omega
                  · exfalso
                    have g2 := HM.out
                    have g3 : q = (t.takeWhile (sameR c.row)).length := by omega
                    have g4 := HX.out
                    rw [g3] at g4
                    have := tw_at _ t x g4
                    simp [sameR, hrow] at this)
                rw [hrow] at y1
                clear HX hrow
                go_wp2_with fail
                go_quiet (fail)
                go_wp2
                go_roundw
                case rel => exact ⟨q + 1 + 1, by go_num, by omega, by omega, by first | exact oi | exact oi.dr | exact oi.dn _, HM2⟩
                case measure => simp [intOf]; omega
              · have HM2 := Lib.hid (show q + 1 = 1 + (t.takeWhile (sameR c.row)).length by
                  rcases Nat.lt_or_ge q (t.takeWhile (sameR c.row)).length with g1 | g1
                  · exfalso
                    have := tw_lt _ t q x g1 HX.out
                    simp [sameR] at this
                    exact hrow this
                  · have := HM.out
                    omega)
                have hrow2 : (x.row == c.row) = false := by simpa using hrow
                clear HX
                go_wp2_with fail
                go_quiet (fail)
                have oW : Old wr0 (wr.drewN nq) := oi.dn _
                generalize wr.drewN nq = Wi at *
                clear hrow y0 y1 oi HM
                obtain ⟨m, hm⟩ : ∃ m, m = q + 1 := ⟨_, rfl⟩
                rw [← hm] at HM2 hm1 hmN ⊢
                clear hm d1 j1 j2 j3 d0 hmlt
                have hml : ((c :: t).take m).length = m := by rw [List.length_take]; simp; omega
                have hcl : Cels Wi (.slice (some ⟨b, off + s * 6, none⟩) m (cap - s)) ((c :: t).take m) := .inr ⟨⟨b, off + s * 6, none⟩, cap - s, by rw [hml], by rw [hml]; omega, fun _ => ⟨b, off + s * 6, rfl, (HCS.out.old oW).take_ m⟩⟩
                have HST := Lib.hid (rr_step HR.out.gd HT.out HM2.out HR.out.eq)
                have hmem := HR.out.mem.old oW
                have hlen2 := HR.out.len
                have i5 : (0 : Int) ≤ (m : Int) := by omega
                have i6 : (m : Int) ≤ ((cap - s : Nat) : Int) := by omega
                have i7 : (m : Int) ≤ (N : Int) := by omega
                have HEND := Lib.hid (fun (ov nv : Value) (us' : List Value) (LL' : List (List Cel)) (now' : List Cel) (Z : World) (hM : RrM w ov nv us' LL' now' Z) (hq : Now most (((grps 0 l).take (k + 1)).map (fun x : Grp => x.cs)) LL' now') (hz : LL'.length + now'.length ≤ s + m) => (⟨hM, HST.out.1, hq, hz, by omega⟩ : RrI w most l (k + 1) (s + m) ov nv us' LL' now' Z))
                clear oW
                by_cases hn0 : now.length = 0
                · obtain rfl : now = [] := List.eq_nil_of_length_eq_zero hn0
                  go_wp2_with (at_builtin; refine wp_cels rfl (.tmp 53) (.tmp 56) rfl (W0 := w) hmem.od _ [] _ rfl hmem.nw _ rfl hcl (by rw [hml]; simp; omega) ?_; intro v8 w8 n8 o8 g8 f8; refine Hid.out ?_)
                  refine Lib.hid ?_
                  have HM8 := Lib.hid (hmem.grow o8 n8 g8 f8)
                  obtain ⟨A8, c8, rfl, -⟩ := n8.cels.form
                  clear n8 o8 g8 f8 hmem hcl
                  go_wp2
                  go_roundw
                  case rel => exact ⟨k + 1, s + m, if cap - s = m then some ⟨b, off + s * 6, none⟩ else some ⟨b, off + s * 6 + m * 6, none⟩, cap - s - m, us, LLo, _, by congr 1; omega, by omega, fun h => ⟨b, off, rfl, by rw [if_neg (by omega)]; congr 2; omega, by omega⟩, Lib.hid (HEND.out _ _ _ _ _ _ HM8.out (HST.out.2.2.1 (.inl trivial)) (by rw [List.nil_append, hml]; simp at hlen2; omega))⟩
                  case measure => dsimp only; omega
                · have hnil : ¬ now = [] := fun h => hn0 (by rw [h]; rfl)
                  have i3 : (0 : Int) < (now.length : Int) := by omega
                  by_cases hf : (now.length : Int) + (m : Int) ≤ most
                  · have hf2 : ¬ most < (now.length : Int) + (m : Int) := by omega
                    go_wp2_with (at_builtin; refine wp_cels rfl (.tmp 53) (.tmp 56) rfl (W0 := w) hmem.od _ now _ rfl hmem.nw _ rfl hcl (by rw [hml]; omega) ?_; intro v8 w8 n8 o8 g8 f8; refine Hid.out ?_)
                    refine Lib.hid ?_
                    have HM8 := Lib.hid (hmem.grow o8 n8 g8 f8)
                    have HQ := Lib.hid (HST.out.2.2.1 (.inr hf))
                    obtain ⟨A8, c8, rfl, -⟩ := n8.cels.form
                    clear n8 o8 g8 f8 hmem hcl hf hf2
                    go_wp2
                    go_roundw
                    case rel => exact ⟨k + 1, s + m, if cap - s = m then some ⟨b, off + s * 6, none⟩ else some ⟨b, off + s * 6 + m * 6, none⟩, cap - s - m, us, LLo, _, by congr 1; omega, by omega, fun h => ⟨b, off, rfl, by rw [if_neg (by omega)]; congr 2; omega, by omega⟩, Lib.hid (HEND.out _ _ _ _ _ _ HM8.out (HQ.out) (by rw [List.length_append, hml]; omega))⟩
                    case measure => dsimp only; omega
                  · have hf2 : most < (now.length : Int) + (m : Int) := by omega
                    go_wp2_with (at_builtin; refine wp_push rfl (.tmp 48) (.tmp 50) rfl (W0 := w) (hmem.od.al _) _ us LLo rfl (hmem.ll.old (old_alloc _ _)) _ now (hmem.nw.old (old_alloc _ _)) hmem.ap Wi.heap.size rfl (new_bk _ _ _) (by omega) ?_; intro v7 w7 hll7 o7; refine Hid.out ?_)
                    have HQ := Lib.hid (HST.out.2.2.2 hnil hf)
                    have hM7 : RrM w v7 (.slice (some ⟨w7.heap.size, 0, none⟩) 0 0) (us ++ [.slice A7 now.length c7]) (LLo ++ [now]) [] (w7.alloc (.cells #[] 50)) :=
                      ⟨o7.al _, hll7.old (old_alloc _ _), OwnC.empty (new_bk _ _ _) o7.size, fun j u' b' hj hb1 hb2 => by
                        have g1 := hll7.lt hj hb1
                        have g2 : w7.heap.size = b' := by simpa [Value.ownBlock] using hb2
                        omega⟩
                    have hcl7 : Cels (w7.alloc (.cells #[] 50)) (.slice (some ⟨b, off + s * 6, none⟩) m (cap - s)) ((c :: t).take m) := .inr ⟨⟨b, off + s * 6, none⟩, cap - s, by rw [hml], by rw [hml]; omega, fun _ => ⟨b, off + s * 6, rfl, by
                      have g1 := ((HI.out.old (o7.al (.cells #[] 50))).ats (by rintro rfl; simp at h1)).drop_ s
                      rw [HT.out] at g1
                      exact g1.take_ m⟩⟩
                    obtain ⟨Ao, co, hv7, -⟩ := hll7.form
                    rw [List.length_append, List.length_singleton] at hv7
                    subst hv7
                    refine Lib.hid ?_
                    clear hll7 hmem hcl hf hf2
                    go_wp2_with (at_builtin; refine wp_cels rfl (.tmp 53) (.tmp 56) rfl (W0 := w) hM7.od _ [] _ rfl hM7.nw _ rfl hcl7 (by rw [hml]; simp; omega) ?_; intro v8 w8 n8 o8 g8 f8; refine Hid.out ?_)
                    refine Lib.hid ?_
                    have HM8 := Lib.hid (hM7.grow o8 n8 g8 f8)
                    obtain ⟨A8, c8, rfl, -⟩ := n8.cels.form
                    clear n8 o8 g8 f8 hM7 hcl7
                    go_wp2
                    go_roundw
                    case rel => exact ⟨k + 1, s + m, if cap - s = m then some ⟨b, off + s * 6, none⟩ else some ⟨b, off + s * 6 + m * 6, none⟩, cap - s - m, _, _, _, by congr 1; omega, by omega, fun h => ⟨b, off, rfl, by rw [if_neg (by omega)]; congr 2; omega, by omega⟩, Lib.hid (HEND.out _ _ _ _ _ _ HM8.out HQ.out (by rw [List.nil_append, hml, List.length_append]; simp; omega))⟩
                    case measure => dsimp only; omega
            · obtain rfl : m = N := by omega
              have HM2 := Lib.hid (show m = 1 + (t.takeWhile (sameR c.row)).length by
                have g1 := HM.out
                have g2 := tw_len (sameR c.row) t
                omega)
              have d1 : decide ((m : Int) < (m : Int)) = false := by simp
              go_wp2_with fail
              go_quiet (fail)
              have oW : Old wr0 (wr.drewN nq) := oi.dn _
              generalize wr.drewN nq = Wi at *
              clear oi HM d1 hmlt
              have hml : ((c :: t).take m).length = m := by rw [List.length_take]; simp; omega
              have hcl : Cels Wi (.slice (some ⟨b, off + s * 6, none⟩) m (cap - s)) ((c :: t).take m) := .inr ⟨⟨b, off + s * 6, none⟩, cap - s, by rw [hml], by rw [hml]; omega, fun _ => ⟨b, off + s * 6, rfl, (HCS.out.old oW).take_ m⟩⟩
              have HST := Lib.hid (rr_step HR.out.gd HT.out HM2.out HR.out.eq)
              have hmem := HR.out.mem.old oW
              have hlen2 := HR.out.len
              have i5 : (0 : Int) ≤ (m : Int) := by omega
              have i6 : (m : Int) ≤ ((cap - s : Nat) : Int) := by omega
              have i7 : (m : Int) ≤ (m : Int) := by omega
              have HEND := Lib.hid (fun (ov nv : Value) (us' : List Value) (LL' : List (List Cel)) (now' : List Cel) (Z : World) (hM : RrM w ov nv us' LL' now' Z) (hq : Now most (((grps 0 l).take (k + 1)).map (fun x : Grp => x.cs)) LL' now') (hz : LL'.length + now'.length ≤ s + m) => (⟨hM, HST.out.1, hq, hz, by omega⟩ : RrI w most l (k + 1) (s + m) ov nv us' LL' now' Z))
              clear oW
              by_cases hn0 : now.length = 0
              · obtain rfl : now = [] := List.eq_nil_of_length_eq_zero hn0
                go_wp2_with (at_builtin; refine wp_cels rfl (.tmp 53) (.tmp 56) rfl (W0 := w) hmem.od _ [] _ rfl hmem.nw _ rfl hcl (by rw [hml]; simp; omega) ?_; intro v8 w8 n8 o8 g8 f8; refine Hid.out ?_)
                refine Lib.hid ?_
                have HM8 := Lib.hid (hmem.grow o8 n8 g8 f8)
                obtain ⟨A8, c8, rfl, -⟩ := n8.cels.form
                clear n8 o8 g8 f8 hmem hcl
                go_wp2
                go_roundw
                case rel => exact ⟨k + 1, s + m, if cap - s = m then some ⟨b, off + s * 6, none⟩ else some ⟨b, off + s * 6 + m * 6, none⟩, cap - s - m, us, LLo, _, by congr 1; omega, by omega, fun h => ⟨b, off, rfl, by rw [if_neg (by omega)]; congr 2; omega, by omega⟩, Lib.hid (HEND.out _ _ _ _ _ _ HM8.out (HST.out.2.2.1 (.inl trivial)) (by rw [List.nil_append, hml]; simp at hlen2; omega))⟩
                case measure => dsimp only; omega
              · have hnil : ¬ now = [] := fun h => hn0 (by rw [h]; rfl)
                have i3 : (0 : Int) < (now.length : Int) := by omega
                by_cases hf : (now.length : Int) + (m : Int) ≤ most
                · have hf2 : ¬ most < (now.length : Int) + (m : Int) := by omega
                  go_wp2_with (at_builtin; refine wp_cels rfl (.tmp 53) (.tmp 56) rfl (W0 := w) hmem.od _ now _ rfl hmem.nw _ rfl hcl (by rw [hml]; omega) ?_; intro v8 w8 n8 o8 g8 f8; refine Hid.out ?_)
                  refine Lib.hid ?_
                  have HM8 := Lib.hid (hmem.grow o8 n8 g8 f8)
                  have HQ := Lib.hid (HST.out.2.2.1 (.inr hf))
                  obtain ⟨A8, c8, rfl, -⟩ := n8.cels.form
                  clear n8 o8 g8 f8 hmem hcl hf hf2
                  go_wp2
                  go_roundw
                  case rel => exact ⟨k + 1, s + m, if cap - s = m then some ⟨b, off + s * 6, none⟩ else some ⟨b, off + s * 6 + m * 6, none⟩, cap - s - m, us, LLo, _, by congr 1; omega, by omega, fun h => ⟨b, off, rfl, by rw [if_neg (by omega)]; congr 2; omega, by omega⟩, Lib.hid (HEND.out _ _ _ _ _ _ HM8.out (HQ.out) (by rw [List.length_append, hml]; omega))⟩
                  case measure => dsimp only; omega
                · have hf2 : most < (now.length : Int) + (m : Int) := by omega
                  go_wp2_with (at_builtin; refine wp_push rfl (.tmp 48) (.tmp 50) rfl (W0 := w) (hmem.od.al _) _ us LLo rfl (hmem.ll.old (old_alloc _ _)) _ now (hmem.nw.old (old_alloc _ _)) hmem.ap Wi.heap.size rfl (new_bk _ _ _) (by omega) ?_; intro v7 w7 hll7 o7; refine Hid.out ?_)
                  have HQ := Lib.hid (HST.out.2.2.2 hnil hf)
                  have hM7 : RrM w v7 (.slice (some ⟨w7.heap.size, 0, none⟩) 0 0) (us ++ [.slice A7 now.length c7]) (LLo ++ [now]) [] (w7.alloc (.cells #[] 50)) :=
                    ⟨o7.al _, hll7.old (old_alloc _ _), OwnC.empty (new_bk _ _ _) o7.size, fun j u' b' hj hb1 hb2 => by
                      have g1 := hll7.lt hj hb1
                      have g2 : w7.heap.size = b' := by simpa [Value.ownBlock] using hb2
                      omega⟩
                  have hcl7 : Cels (w7.alloc (.cells #[] 50)) (.slice (some ⟨b, off + s * 6, none⟩) m (cap - s)) ((c :: t).take m) := .inr ⟨⟨b, off + s * 6, none⟩, cap - s, by rw [hml], by rw [hml]; omega, fun _ => ⟨b, off + s * 6, rfl, by
                    have g1 := ((HI.out.old (o7.al (.cells #[] 50))).ats (by rintro rfl; simp at h1)).drop_ s
                    rw [HT.out] at g1
                    exact g1.take_ m⟩⟩
                  obtain ⟨Ao, co, hv7, -⟩ := hll7.form
                  rw [List.length_append, List.length_singleton] at hv7
                  subst hv7
                  refine Lib.hid ?_
                  clear hll7 hmem hcl hf hf2
                  go_wp2_with (at_builtin; refine wp_cels rfl (.tmp 53) (.tmp 56) rfl (W0 := w) hM7.od _ [] _ rfl hM7.nw _ rfl hcl7 (by rw [hml]; simp; omega) ?_; intro v8 w8 n8 o8 g8 f8; refine Hid.out ?_)
                  refine Lib.hid ?_
                  have HM8 := Lib.hid (hM7.grow o8 n8 g8 f8)
                  obtain ⟨A8, c8, rfl, -⟩ := n8.cels.form
                  clear n8 o8 g8 f8 hM7 hcl7
                  go_wp2
                  go_roundw
                  case rel => exact ⟨k + 1, s + m, if cap - s = m then some ⟨b, off + s * 6, none⟩ else some ⟨b, off + s * 6 + m * 6, none⟩, cap - s - m, _, _, _, by congr 1; omega, by omega, fun h => ⟨b, off, rfl, by rw [if_neg (by omega)]; congr 2; omega, by omega⟩, Lib.hid (HEND.out _ _ _ _ _ _ HM8.out HQ.out (by rw [List.nil_append, hml, List.length_append]; simp; omega))⟩
                  case measure => dsimp only; omega
        · obtain rfl : s = l.length := by omega
          have HG := Lib.hid (show rollL most l = (if now = [] then [] else LLo ++ [now]) by
            have h2 := HR.out.gd
            rw [List.drop_length, grps_nil] at h2
            have h3 := HR.out.eq.2
            rw [List.take_of_length_le (List.drop_eq_nil_iff.1 h2)] at h3
            exact h3)
          have i0 : ((l.length - l.length : Nat) : Int) = 0 := by omega
          have hlen := HR.out.len
          clear hlt
          by_cases hn0 : now.length = 0
          · obtain rfl : now = [] := List.eq_nil_of_length_eq_zero hn0
            have HF := Lib.hid (show OwnLL wr w.heap.size (.slice A6 LLo.length c6) us (rollV l most) ∧ Old w wr by
              refine ⟨?_, HR.out.mem.od⟩
              have h4 := HR.out.mem.ll
              rw [HE.out.2, HG.out, if_pos rfl]
              rwa [HR.out.eq.1 rfl] at h4 ⊢)
            have i4 : ¬ (0 : Int) < (([] : List Cel).length : Int) := by simp
            clear hn0
            go_wp2
            exact bodyPost_ret (results_tmp2 rfl _ _ _) rfl ⟨_, by rw [HE.out.1]; rfl, ⟨us, HF.out.1⟩, HF.out.2⟩
          · have hnil : ¬ now = [] := fun h => hn0 (by rw [h]; rfl)
            have i3 : (0 : Int) < (now.length : Int) := by omega
            have hmem := HR.out.mem
            go_wp2_with (at_builtin; refine wp_push rfl (.tmp 64) (.tmp 66) rfl (W0 := w) (hmem.od.al _) _ us LLo rfl (hmem.ll.old (old_alloc _ _)) _ now (hmem.nw.old (old_alloc _ _)) hmem.ap wr.heap.size rfl (new_bk _ _ _) (by omega) ?_; intro v7 w7 hll7 o7; refine Hid.out ?_)
            obtain ⟨A8, c8, rfl, -⟩ := hll7.form
            refine Lib.hid ?_
            have HF := Lib.hid (show OwnLL w7 w.heap.size (.slice A8 (LLo ++ [now]).length c8) (us ++ [.slice A7 now.length c7]) (rollV l most) by
              rw [HE.out.2, HG.out, if_neg hnil]
              exact hll7)
            clear hll7 hmem
            go_wp2
            exact bodyPost_ret (results_tmp2 rfl _ _ _) rfl ⟨_, _, by rw [HE.out.1]; rfl, HF.out, o7⟩
end Go.Proofs.Ytohokmfbcehkgaa
