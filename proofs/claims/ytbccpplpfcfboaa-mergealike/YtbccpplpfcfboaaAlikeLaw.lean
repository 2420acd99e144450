/-
  MergeAlike: whatever list of cells, and whatever four numbers, come in, the law answers true, and leaves all as it was. No conditions.
-/
import Derived.Test.YtbccpplpfcfboaaRLft
namespace Go.Proofs.Ytbccpplpfcfboaa
open Go.ChangeShapes Go.WideShapes Go.ChangeAt Go.RowKit Go.Joins Go.Deep

section
variable {H : Type} {enc : TypeId × Value → H} {P : Program} {w : World} {base : Nat} {spare : Nat → Bool} {held : Bool}
theorem trodAll_five {t t' t'' t3 t4 : TypeId} {args : Array Value} {ds : List (DataW H)} {ps : List MemPlace} (h : DataW.TrodAll enc P w base spare held [t, t', t'', t3, t4] args.toList ds ps) :
    ∃ v v' v'' v3 v4 d d' d'' d3 d4 p p' p'' p3 p4, args = #[v, v', v'', v3, v4] ∧ ds = [d, d', d'', d3, d4] ∧ ps = p ++ (p' ++ (p'' ++ (p3 ++ p4))) ∧ DataW.Trod enc P w base spare held t v d p ∧ DataW.Trod enc P w base spare held t' v' d' p' ∧ DataW.Trod enc P w base spare held t'' v'' d'' p'' ∧ DataW.Trod enc P w base spare held t3 v3 d3 p3 ∧ DataW.Trod enc P w base spare held t4 v4 d4 p4 := by
  obtain ⟨v, vs, d, ds', p, q, hargs, rfl, rfl, hd, hrest⟩ := trodAll_cons h
  obtain ⟨v', vs', d', ds'', p', q', rfl, rfl, rfl, hd', hrest'⟩ := trodAll_cons hrest
  obtain ⟨v'', vs'', d'', ds''', p'', q'', rfl, rfl, rfl, hd'', hrest''⟩ := trodAll_cons hrest'
  obtain ⟨v3, vs3, d3, ds3, p3, q3, rfl, rfl, rfl, hd3, hrest3⟩ := trodAll_cons hrest''
  obtain ⟨v4, vs4, d4, ds4, p4, q4, rfl, rfl, rfl, hd4, hrest4⟩ := trodAll_cons hrest3
  obtain ⟨rfl, rfl, rfl⟩ := trodAll_nil hrest4
  exact ⟨v, v', v'', v3, v4, d, d', d'', d3, d4, p, p', p'', p3, p4, by cases args; simp_all, rfl, by simp, hd, hd', hd'', hd3, hd4⟩
theorem trodAll_mk5 {t t' t'' t3 t4 : TypeId} {v v' v'' v3 v4 : Value} {d d' d'' d3 d4 : DataW H} {p p' p'' p3 p4 : List MemPlace} (h : DataW.Trod enc P w base spare held t v d p) (h' : DataW.Trod enc P w base spare held t' v' d' p')
    (h'' : DataW.Trod enc P w base spare held t'' v'' d'' p'') (h3 : DataW.Trod enc P w base spare held t3 v3 d3 p3) (h4 : DataW.Trod enc P w base spare held t4 v4 d4 p4) : DataW.TrodAll enc P w base spare held [t, t', t'', t3, t4] [v, v', v'', v3, v4] [d, d', d'', d3, d4] (p ++ (p' ++ (p'' ++ (p3 ++ p4)))) := ⟨p, p' ++ (p'' ++ (p3 ++ p4)), h, trodAll_mk4 h' h'' h3 h4, rfl⟩
end

theorem mod_of (a q c : Nat) (qi ci : Int) (h1 : qi = (q : Int)) (h2 : ci = (c : Int)) (hq : 0 < q) : ∃ r k : Nat, (a : Int) % qi = (r : Int) ∧ ci + (r : Int) = (k : Int) ∧ c ≤ k ∧ k < c + q := by
  subst h1 h2
  exact ⟨a % q, c + a % q, by omega, by omega, by omega, by have := Nat.mod_lt a hq; omega⟩
theorem passes_le {l : List Cel} {a b p : Nat} {out : List Itm} (h : SortR l a b out p) (hl : l.length ≤ 80) (ha : 1 ≤ a) (hb : 2 ≤ b) : p ≤ 7 := by
  obtain ⟨Ls, r, s⟩ := h
  refine s.cnt.le hb 7 ?_
  rw [r.1, itemsOf_len]
  have := many_le (N := l.length) ha
  omega
set_option maxRecDepth 100000 in
set_option maxHeartbeats 8000000 in
theorem law_alike (v : Value) (l : List Cel) (a b c d : Nat) (w : World) (h : Cels w v l) (hml : l.length ≤ maxLen) (ha : a < 256) (hb : b < 256) (hc : c < 256) (hd : d < 256) :
    Calls Try.prog 5 #[v, .int .u8 (a : Int), .int .u8 (b : Int), .int .u8 (c : Int), .int .u8 (d : Int)] w fun e w' => e = .returned (.bool true) ∧ Old w w' := by
  obtain ⟨A0, cap0, rfl, hc0⟩ := h.form
  go_enter Try.func5, Try.ntmps5
  go_wp2_with fail
  refine (bounded_any _ _ _ h hml).mono ?_
  rintro e w1' ⟨rfl, rfl⟩
  cases hbd : boundedB l with
  | false =>
    go_wp2_with fail
    refine (shown_any _).mono ?_
    rintro e w2 ⟨rfl, o2⟩
    go_wp2
    go_ret
    exact ⟨rfl, o2⟩
  | true =>
    have hl2 : l.length ≤ 80 := bounded_len hbd
    clear hbd hml
    go_wp2_with fail
    refine (shown_any _).mono ?_
    rintro e w2 ⟨rfl, o2⟩
    obtain ⟨ra, ka, ea1, ea2, ea3, ea4⟩ := mod_of a 100 1 100 1 rfl rfl (by omega)
    obtain ⟨rb, kb, eb1, eb2, eb3, eb4⟩ := mod_of b 10 2 10 2 rfl rfl (by omega)
    obtain ⟨rc, kc, ec1, ec2, ec3, ec4⟩ := mod_of c 100 1 100 1 rfl rfl (by omega)
    obtain ⟨rd, kd, ed1, ed2, ed3, ed4⟩ := mod_of d 10 2 10 2 rfl rfl (by omega)
    have C := sort_any w2 (.slice A0 l.length cap0) l (h.old o2) (by omega) ka kb (by omega) (by omega) (by omega) (by omega)
    have HH := Lib.hid h
    clear h
    go_wp2_with fail
    refine C.mono ?_
    clear C
    rintro e w3 ⟨u, out, p, rfl, hs, hcl, o3⟩
    obtain ⟨cs, hcs⟩ : ∃ cs, out.map (·.c) = cs := ⟨_, rfl⟩
    rw [hcs] at hcl
    have C := sort_any w3 (.slice A0 l.length cap0) l ((HH.out.old o2).old o3) (by omega) kc kd (by omega) (by omega) (by omega) (by omega)
    have HC := Lib.hid (And.intro hs (And.intro hcl hcs))
    obtain ⟨A1, c1, rfl, -⟩ := hcl.form
    clear hs hcl hcs
    go_wp2_with fail
    refine C.mono ?_
    clear C
    rintro e w4 ⟨u2, out2, p2, rfl, hs2, hcl2, o4⟩
    have he : out2 = out := (hs2.res (by omega) (by omega)).uniq (HC.out.1.res (by omega) (by omega))
    subst he
    have hp1 : p ≤ 7 := passes_le HC.out.1 hl2 (by omega) (by omega)
    have hp2 : p2 ≤ 7 := passes_le hs2 hl2 (by omega) (by omega)
    have hlen := (hs2.res (by omega) (by omega)).len_le
    rw [itemsOf_len] at hlen
    rw [HC.out.2.2] at hcl2
    have hcl3 : cs.length ≤ 80 := by rw [← HC.out.2.2, List.length_map]; omega
    have C := sameC_any w4 _ u2 cs (HC.out.2.1.old o4) hcl2 (by omega)
    obtain ⟨A2, c2, rfl, -⟩ := hcl2.form
    clear hs2 hcl2 HC
    have i1 : (0 : Int) ≤ (p : Int) := by omega
    have i2 : (0 : Int) ≤ (p2 : Int) := by omega
    have i3 : (p : Int) ≤ 7 := by omega
    have i4 : (p2 : Int) ≤ 7 := by omega
    go_wp2_with fail
    refine C.mono ?_
    clear C
    rintro e w5 ⟨rfl, o5⟩
    go_wp2
    go_ret
    exact ⟨rfl, ((o2.tr o3).tr o4).tr o5⟩

set_option maxRecDepth 100000 in
theorem mergeAlike_lifted (os : Os) (started : os.Started) (H : Type) (enc : TypeId × Value → H) :
    ReturnsInHanded {} Try.checked os 5 .any (Rows.mergeAlikeSpec.pre6 enc Try.prog Try.f5 Rows.mergeAlikeRow.domain false) (Rows.mergeAlikeSpec.post enc Try.prog Try.f5 false true false false) := by
  refine returnsInHanded_of_change_sized (C := Try.checked) Try.own started (by kernel_rfl) Try.func5
    (ChangeSpec.witness6 (enc := enc) (C := Try.checked) false ⟨#[], #[.slice none 0 0, .int .u8 0, .int .u8 0, .int .u8 0, .int .u8 0], []⟩ 8 (by kernel_rfl) (by kernel_rfl) (by kernel_rfl) (by kernel_rfl)) ?_
  intro W base args ds gs before hval0 hW hcnd hsz0 _
  have hval : ∀ (j : Nat) t v, Try.f5.params[j]? = some t → args[j]? = some v → Value.okWide Try.prog W .any base t v := hval0
  have hW' := hW
  obtain ⟨p, q, hA0, hV, rfl, hfz, hnd⟩ := hW
  have hA : DataW.TrodAll enc Try.prog W 0 (fun _ => true) true Try.f5.params.toList args.toList ds p := hA0
  have hsz : (DataW.weightsEach Try.prog (Try.f5.params.toList ++ Rows.mergeAlikeSpec.plain.varTypes Try.prog) (ds ++ gs)).all (· ≤ reachBytes) = true := hsz0
  rw [Try.params5] at hA hval hsz
  obtain ⟨v0, v1, v2, v3, v4, d0, d1, d2, d3, d4, p0, p1, p2, p3, p4, rfl, rfl, rfl, h0, h1, h2, h3, h4⟩ := trodAll_five hA
  obtain ⟨rfl, rfl⟩ := trodVars_none hV
  have hlt : ∀ x ∈ p0 ++ (p1 ++ (p2 ++ (p3 ++ (p4)))), x.block < W.heap.size := fun x hx => hW'.lt x (by simpa using hx)
  have k0 := h0
  have k1 := h1
  have k2 := h2
  have k3 := h3
  have k4 := h4
  obtain ⟨a0, o0, m0, -⟩ := open_cels (hval 0 22 v0 rfl rfl) h0
  obtain ⟨a1, rfl, o1⟩ := open_u8 (hval 1 5 v1 rfl rfl) h1
  obtain ⟨a2, rfl, o2⟩ := open_u8 (hval 2 5 v2 rfl rfl) h2
  obtain ⟨a3, rfl, o3⟩ := open_u8 (hval 3 5 v3 rfl rfl) h3
  obtain ⟨a4, rfl, o4⟩ := open_u8 (hval 4 5 v4 rfl rfl) h4
  clear hA0 hval0 hsz0
  refine (law_alike v0 a0 a1 a2 a3 a4 W o0 m0 o1 o2 o3 o4).mono fun e W' ⟨he, hb⟩ => ?_
  subst he
  refine ⟨_, rfl, _, _, _, [], p0 ++ (p1 ++ (p2 ++ (p3 ++ (p4)))), [], hW', trodAll_mk1 (shut_bool Try.underlying4 _), ?_, rfl, hb.frame _, fun h => by cases h⟩
  have r0 := Below.trod Try.laidOut (by kernel_rfl) (of_decide_eq_true (by kernel_rfl)) k0 hb (fun x hx => hlt x (by simp [hx]))
  have r1 := Below.trod Try.laidOut (by kernel_rfl) (of_decide_eq_true (by kernel_rfl)) k1 hb (fun x hx => hlt x (by simp [hx]))
  have r2 := Below.trod Try.laidOut (by kernel_rfl) (of_decide_eq_true (by kernel_rfl)) k2 hb (fun x hx => hlt x (by simp [hx]))
  have r3 := Below.trod Try.laidOut (by kernel_rfl) (of_decide_eq_true (by kernel_rfl)) k3 hb (fun x hx => hlt x (by simp [hx]))
  have r4 := Below.trod Try.laidOut (by kernel_rfl) (of_decide_eq_true (by kernel_rfl)) k4 hb (fun x hx => hlt x (by simp [hx]))
  exact trodAll_mk5 r0 r1 r2 r3 r4

theorem mergeAlike_holds : Rows.MergeAlikeSaid :=
  OpenClaim.holds_of_wide 5 Try.f5 rfl rfl rfl rfl rfl rfl rfl ⟨rfl, rfl, rfl, rfl, rfl⟩ rfl rfl rfl rfl rfl (by kernel_rfl) Try.func5 (by kernel_rfl)
    (of_decide_eq_true (by kernel_rfl)) (by unfold Func.isWrapper; first | (rw [if_pos (by decide +kernel)]; kernel_rfl) | (rw [if_neg (by decide +kernel)]; exact ⟨rfl, rfl⟩))
    (fun os started H enc _ => mergeAlike_lifted os started H enc)
#print axioms mergeAlike_holds
end Go.Proofs.Ytbccpplpfcfboaa
