/-
  WalResets: whatever texts come in, and wherever the Reset is cut, the law answers true, and leaves all as it was. Condition: the table is laid as the program's text lays it.
-/
import Derived.Test.YtilimfbjkgeciaaDoorWAct
import Derived.Test.YtilimfbjkgeciaaDoorWCut
namespace Go.Proofs.YtilimfbjkgeciaaDoor
open Go.ChangeShapes Go.WideShapes Go.ChangeAt Go.RowKit Go.Joins Go.Deep Go.Maps Go.Shelf
set_option maxRecDepth 100000

def logN : List UInt8 := [108, 111, 103]
theorem nmL : Nm logN := ⟨by decide, by decide⟩
theorem same_texts (l m : List (List UInt8)) (A A' : Option Addr) (c c' : Nat) (hl : l.length ≤ 1000000) (hm : m.length ≤ 1000000) (w : World) (hA : Strs w A c l) (hA' : Strs w A' c' m) (b : Bool) (hb : decide (l = m) = b) :
    Calls Tryd.prog 12 #[.slice A l.length c, .slice A' m.length c'] w fun e w' => e = .returned (.bool b) ∧ Old w w' := by
  subst hb
  exact same_any l m A A' c c' hl hm w hA hA'
theorem strs_zero (w : World) : Strs w none 0 [] := ⟨Nat.le_refl _, fun i t ht => by simp at ht⟩
theorem off_app (x : List UInt8) (p : Pd) (many : Nat) (l : List (List UInt8)) : pappendL x p many true l = ⟨p, many, true, 6⟩ := rfl
theorem off_res (x : List UInt8) (p : Pd) (many : Nat) (l : List (List UInt8)) : presetL x p many true l = ⟨p, many, true, 6⟩ := rfl
/-- What a Reset that may be cut comes to. -/
theorem reset_cut {cap : Nat} {x : List UInt8} {T U : List (List UInt8)} (hx : Nm x) (hU : ∀ t ∈ U, t.length ≤ 65535) (hc : (puts T).length + (puts U).length ≤ cap) (many left : Nat) (keep : Int) :
    ∃ p m off e, presetL x ⟨cap, [⟨x, puts T, (puts T).length⟩], true, left, keep⟩ many false U = ⟨p, m, off, e⟩ ∧ p.cap = cap ∧
      ((e = 0 ∧ ∃ n r, p.files = ⟨x, puts U, n⟩ :: r) ∨ (e = 6 ∧ off = true ∧ ((∃ n r, p.files = ⟨x, puts U, n⟩ :: r) ∨ (∃ n r, p.files = ⟨x, puts T, n⟩ :: r)))) ∧ (m = many ∨ m = U.length) := by
  obtain ⟨files, e, up, l, k, h1, h2⟩ := write_cut hx hc left keep
  unfold presetL pchange
  rw [if_neg (by decide), wide_none hU, if_neg (by decide), h1]
  rcases h2 with ⟨rfl, h2⟩ | ⟨rfl, h2⟩
  · exact ⟨_, _, _, _, rfl, rfl, .inl ⟨rfl, h2⟩, .inr rfl⟩
  · exact ⟨_, _, _, _, rfl, rfl, .inr ⟨rfl, rfl, h2⟩, .inl rfl⟩

set_option maxHeartbeats 8000000 in
theorem law_resets (a b : List (List UInt8)) (A A' : Option Addr) (ca cb n : Nat) (keep : Int) (hn : n < 256) (w : World) (ht : Tab w) (hA : Strs w A ca a) (hca : ca ≤ maxLen) (hB : Strs w A' cb b) (hcb : cb ≤ maxLen) :
    Calls Tryd.prog 5 #[.slice A a.length ca, .slice A' b.length cb, .int .u8 n, .int .i64 keep] w fun e w' => e = .returned (.bool true) ∧ Old w w' := by
  have HA := bounded_any ⟨0, 0, 0, a, A, ca⟩ hca w hA
  cases hba : bnd a with
  | false =>
    rw [hba] at HA
    go_enter Tryd.func5, Tryd.ntmps5
    go_wp2_with fail
    refine HA.mono ?_
    rintro e w1 ⟨rfl, o1⟩
    go_wp2_with fail
    refine (shown_any _ (ht.old o1)).mono ?_
    rintro e w2 ⟨rfl, o2⟩
    go_wp2
    go_ret
    exact ⟨rfl, o1.tr o2⟩
  | true =>
  rw [hba] at HA
  have HB := Lib.hid (fun w1 (o : Old w w1) => bounded_any ⟨0, 0, 0, b, A', cb⟩ hcb w1 (hB.old o))
  cases hbb : bnd b with
  | false =>
    rw [hbb] at HB
    go_enter Tryd.func5, Tryd.ntmps5
    go_wp2_with fail
    refine HA.mono ?_
    rintro e w1 ⟨rfl, o1⟩
    go_wp2_with fail
    refine (HB.out _ o1).mono ?_
    rintro e w2 ⟨rfl, o2⟩
    go_wp2_with fail
    refine (shown_any _ (ht.old (o1.tr o2))).mono ?_
    rintro e w3 ⟨rfl, o3⟩
    go_wp2
    go_ret
    exact ⟨rfl, (o1.tr o2).tr o3⟩
  | true =>
  rw [hbb] at HB
  obtain ⟨la, sa⟩ := bnd_yes hba
  obtain ⟨lb', sb⟩ := bnd_yes hbb
  have HSA := Lib.hid (show ∀ t ∈ a, t.length ≤ 65535 from fun t h => by have := sa t h; omega)
  have HSB := Lib.hid (show ∀ t ∈ b, t.length ≤ 65535 from fun t h => by have := sb t h; omega)
  have HSA2 := Lib.hid (show ∀ t ∈ a, t.length ≤ 1000000 from fun t h => by have := sa t h; omega)
  have HSB2 := Lib.hid (show ∀ t ∈ b, t.length ≤ 1000000 from fun t h => by have := sb t h; omega)
  have hpa := short_puts a sa
  have hpb := short_puts b sb
  clear hba hbb sa sb
  have hrI : ((n : Int) % 7) = ((n % 7 : Nat) : Int) := by omega
  have hrB : ((n % 7 : Nat) : Int) ≤ 9223372036854775807 := by omega
  go_enter Tryd.func5, Tryd.ntmps5
  go_wp2_with fail
  refine HA.mono ?_
  rintro e w1 ⟨rfl, o1⟩
  clear HA
  go_wp2_with fail
  refine (HB.out _ o1).mono ?_
  rintro e w2 ⟨rfl, o2⟩
  clear HB
  have o3 := o1.tr o2
  clear o1 o2
  go_wp2_with fail
  refine (shown_any _ (ht.old o3)).mono ?_
  rintro e w3 ⟨rfl, o4⟩
  have o5 := o3.tr o4
  clear o3 o4
  go_wp2_with fail
  refine (new_lw 100000 (by omega) o5).mono ?_
  rintro e w4 ⟨d, rfl, h1, -⟩
  have H := open_ok (x := logN) h1 ht (by decide) (by decide) (open_none nmL)
  clear h1 o5
  go_wp2_with fail
  refine H.mono ?_
  clear H
  rintro e w5 ⟨lb, A0, cap0, rfl, h2, -, -, q1, -, q3, -, -⟩
  have H := append_ok' h2 ht q1 q3 (by decide) (by decide) (by omega) HSA2.out (hA.old h2.old) (append_one (T := []) nmL HSA.out _ (by rw [puts_nil]; simp; omega))
  clear h2 q3
  go_wp2_with fail
  refine H.mono ?_
  clear H
  rintro e w6 ⟨rfl, h3, q3, -, -⟩
  rw [List.nil_append] at h3
  obtain ⟨L, K, hf⟩ := fuse_up (p := Ps 100000 logN (puts a)) rfl ((n % 7 : Nat) : Int) keep
  have H := fuse_lw h3 ((n % 7 : Nat) : Int) keep hrB
  rw [hf] at H
  clear hf h3 hrB
  generalize n % 7 = r at *
  go_wp2_with fail
  refine H.mono ?_
  clear H
  rintro e w7 ⟨rfl, h4, -, kl⟩
  have q4 : Lg w7 lb d logN _ _ := kl (lb + 1) _ _ q3 (by omega)
  clear kl q3
  obtain ⟨p, m, off, e0, hr, hpc, hcase, hm⟩ := reset_cut (cap := 100000) (T := a) (U := b) nmL HSB.out (by omega) (0 + a.length) L K
  have HMB := Lib.hid (show m ≤ 1000000000000 by omega)
  have H := reset_ok' h4 ht q1 q4 (by decide) (by omega) HSB2.out (hB.old h4.old) hr
  clear h4 q4 hr
  have HOP := fun (w1 : World) (U : List (List UInt8)) (n : Nat) (r : List Pf) (hp : p.files = ⟨logN, puts U, n⟩ :: r) (hU : ∀ t ∈ U, t.length ≤ 65535) (h : Lw w w1 d (pon p)) => open_ok (x := logN) h ht (by decide) (by unfold pon; rw [hpc]; decide) (show popen (pon p) logN = _ from by
    unfold pon
    rw [hp]
    exact open_head nmL hU r)
  rcases hcase with ⟨rfl, n1, r1, hp⟩ | ⟨rfl, rfl, hcase⟩
  · go_wp2_with fail
    refine H.mono ?_
    clear H
    rintro e w8 ⟨rfl, h5, q5, -, -⟩
    go_wp2_with fail
    refine (on_lw h5).mono ?_
    clear h5
    rintro e w9 ⟨rfl, h6, -, -⟩
    have H := HOP w9 b n1 r1 hp HSB.out h6
    clear h6 HOP
    go_wp2_with fail
    refine H.mono ?_
    clear H
    rintro e w10 ⟨lb2, A2, cap2, rfl, h7, -, -, -, -, -, hS, -⟩
    have H := same_texts b b A2 A' cap2 cb (by omega) (by omega) w10 hS (hB.old h7.old) true (by simp)
    go_wp2_with fail
    refine H.mono ?_
    rintro e w11 ⟨rfl, o11⟩
    go_wp2
    go_ret
    exact ⟨rfl, h7.old.tr o11⟩
  · go_wp2_with fail
    refine H.mono ?_
    clear H
    rintro e w8 ⟨rfl, h5, q5, -, -⟩
    go_wp2_with fail
    refine (off_any q5).mono ?_
    rintro e w8 ⟨rfl, rfl⟩
    have o8 := old_alloc w8 (.cells #[.string (B [120])] 9)
    have H := append_ok' (h5.go o8) ht q1 (q5.old o8) (by decide) HMB.out (by decide) (by decide) (strs_any [[120]] (by decide) (new_bk w8 _ _)) (off_app _ _ _ _)
    clear h5 q5 o8
    go_wp2_with fail
    refine H.mono ?_
    clear H
    rintro e w9 ⟨rfl, h6, q6, -, -⟩
    have H := reset_ok' h6 ht q1 q6 (by decide) (by decide) (by decide) (strs_zero w9) (off_res _ _ _ _)
    clear h6 q6
    go_wp2_with fail
    refine H.mono ?_
    clear H
    rintro e w10 ⟨rfl, h7, -, -, -⟩
    go_wp2_with fail
    refine (on_lw h7).mono ?_
    clear h7
    rintro e w11 ⟨rfl, h8, -, -⟩
    rcases hcase with ⟨n1, r1, hp⟩ | ⟨n1, r1, hp⟩
    · have H := HOP w11 b n1 _ hp HSB.out h8
      clear h8 HOP
      go_wp2_with fail
      refine H.mono ?_
      clear H
      rintro e w12 ⟨lb2, A2, cap2, rfl, h9, -, -, -, -, -, hS, -⟩
      have H := same_texts b b A2 A' cap2 cb (by omega) (by omega) w12 hS (hB.old h9.old) true (by simp)
      go_wp2_with fail
      refine H.mono ?_
      rintro e w13 ⟨rfl, o13⟩
      go_wp2
      go_ret
      exact ⟨rfl, h9.old.tr o13⟩
    · have H := HOP w11 a n1 _ hp HSA.out h8
      clear h8 HOP
      go_wp2_with fail
      refine H.mono ?_
      clear H
      rintro e w12 ⟨lb2, A2, cap2, rfl, h9, -, -, -, -, -, hS, -⟩
      by_cases hab : a = b
      · have H := same_texts a b A2 A' cap2 cb (by omega) (by omega) w12 hS (hB.old h9.old) true (by simpa using hab)
        clear hab
        go_wp2_with fail
        refine H.mono ?_
        rintro e w13 ⟨rfl, o13⟩
        go_wp2
        go_ret
        exact ⟨rfl, h9.old.tr o13⟩
      · have H := same_texts a b A2 A' cap2 cb (by omega) (by omega) w12 hS (hB.old h9.old) false (by simpa using hab)
        clear hab
        go_wp2_with fail
        refine H.mono ?_
        clear H
        rintro e w13 ⟨rfl, o13⟩
        have H := same_texts a a A2 A cap2 ca (by omega) (by omega) w13 (hS.old o13) (hA.old (h9.old.tr o13)) true (by simp)
        go_wp2_with fail
        refine H.mono ?_
        rintro e w14 ⟨rfl, o14⟩
        go_wp2
        go_ret
        exact ⟨rfl, (h9.old.tr o13).tr o14⟩

set_option maxRecDepth 100000 in
theorem walResets_contract (H : Type) (enc : TypeId × Value → H) (W : World) (base : Nat) (args : Array Value) (ds gs : List (DataW H)) (before : List MemPlace)
    (hval0 : ∀ (j : Nat) t v, Tryd.f5.params[j]? = some t → args[j]? = some v → Value.okWide Tryd.prog W .any base t v)
    (hW : DataW.Whole enc Tryd.prog Tryd.f5.params.toList Rows.walResetsSpec.vars false W args.toList ds gs before) (hL : laidMetH Tryd.prog Rows.walResetsRow.laid W) :
    Calls Tryd.prog 5 args W fun e W' => ∃ v, e = .returned v ∧ Rows.walResetsSpec.post enc Tryd.prog Tryd.f5 false true false false W args v W' := by
  have ht : Tab W := table hL
  have hval : ∀ (j : Nat) t v, Tryd.f5.params[j]? = some t → args[j]? = some v → Value.okWide Tryd.prog W .any base t v := hval0
  have hW' := hW
  obtain ⟨p, q, hA0, hV, rfl, hfz, hnd⟩ := hW
  have hA : DataW.TrodAll enc Tryd.prog W 0 (fun _ => true) true Tryd.f5.params.toList args.toList ds p := hA0
  rw [Tryd.params5] at hA hval
  obtain ⟨v0, v1, v2, v3, d0, d1, d2, d3, p0, p1, p2, p3, rfl, rfl, rfl, h0, h1, h2, h3⟩ := trodAll_four' hA
  obtain ⟨rfl, rfl⟩ := trodVars_none hV
  have hlt : ∀ x ∈ p0 ++ (p1 ++ (p2 ++ (p3))), x.block < W.heap.size := fun x hx => hW'.lt x (by simpa using hx)
  have k0 := h0
  have k1 := h1
  have k2 := h2
  have k3 := h3
  obtain ⟨a0, A0, c0, rfl, o0, m0⟩ := open_strs (hval 0 31 v0 rfl rfl) h0 (fun x hx => hlt x (by simp [hx]))
  obtain ⟨a1, A1, c1, rfl, o1, m1⟩ := open_strs (hval 1 31 v1 rfl rfl) h1 (fun x hx => hlt x (by simp [hx]))
  obtain ⟨a2, rfl, o2⟩ := open_u8 (hval 2 5 v2 rfl rfl) h2
  obtain ⟨a3, rfl, o3⟩ := open_i64 (hval 3 3 v3 rfl rfl) h3
  clear hA0 hval0
  refine (law_resets a0 a1 A0 A1 c0 c1 a2 a3 o2 W ht o0 m0 o1 m1).mono fun e W' ⟨he, hb⟩ => ?_
  subst he
  refine ⟨_, rfl, _, _, _, [], p0 ++ (p1 ++ (p2 ++ (p3))), [], hW', trodAll_mk1 (shut_bool Tryd.underlying4 _), ?_, rfl, hb.frame _, fun h => by cases h⟩
  have r0 := Below.trod Tryd.laidOut (by kernel_rfl) (of_decide_eq_true (by kernel_rfl)) k0 hb (fun x hx => hlt x (by simp [hx]))
  have r1 := Below.trod Tryd.laidOut (by kernel_rfl) (of_decide_eq_true (by kernel_rfl)) k1 hb (fun x hx => hlt x (by simp [hx]))
  have r2 := Below.trod Tryd.laidOut (by kernel_rfl) (of_decide_eq_true (by kernel_rfl)) k2 hb (fun x hx => hlt x (by simp [hx]))
  have r3 := Below.trod Tryd.laidOut (by kernel_rfl) (of_decide_eq_true (by kernel_rfl)) k3 hb (fun x hx => hlt x (by simp [hx]))
  exact trodAll_mk4 r0 r1 r2 r3

set_option maxRecDepth 100000 in
theorem walResets_met (os : Os) : laidMet Tryd.prog Rows.walResetsRow.laid ((laidWorld os).forCall (fun _ _ => 0) ⟨#[], #[.slice none 0 0, .slice none 0 0, .int .u8 0, .int .i64 0], []⟩).memory :=
  laidMet_of_run' 8 (by kernel_rfl) (by kernel_rfl)
set_option maxRecDepth 100000 in
theorem walResets_reads (os : Os) {H : Type} (enc : TypeId × Value → H) : ∃ places, DataW.whole enc Tryd.prog ((laidWorld os).forCall (fun _ _ => 0) ⟨#[], #[.slice none 0 0, .slice none 0 0, .int .u8 0, .int .i64 0], []⟩).memory Tryd.f5.params.toList Rows.walResetsSpec.vars false (#[.slice none 0 0, .slice none 0 0, .int .u8 0, .int .i64 0] : Array Value).toList 8 = some ([.nil, .nil, .lit (.int .u8 0), .lit (.int .i64 0)], [], places) :=
  ⟨[], by kernel_rfl⟩

set_option maxRecDepth 100000 in
theorem walResets_lifted (os : Os) (started : os.Started) (H : Type) (enc : TypeId × Value → H) (F : Stop.Interp) :
    ReturnsInHanded {} Tryd.checked os 5 .any ((OpenSpec.ofChange Rows.walResetsSpec).preRow enc Tryd.prog Tryd.f5 Rows.walResetsRow.domain false Rows.walResetsRow.laid) (((OpenSpec.ofChange Rows.walResetsSpec).at F).post enc Tryd.prog Tryd.f5 false true false false) := by
  obtain ⟨places, hx⟩ := walResets_reads os enc
  refine returnsInHanded_of_row (C := Tryd.checked) (s := OpenSpec.ofChange Rows.walResetsSpec) Tryd.own started (by kernel_rfl) Tryd.func5
    (witness_row_at (enc := enc) (C := Tryd.checked) false (laidWorld os) #[.slice none 0 0, .slice none 0 0, .int .u8 0, .int .i64 0] rfl (by kernel_rfl) (by kernel_rfl) (by kernel_rfl)
      (OpenSpec.preRow_of_cond 8 hx (by kernel_rfl) (fun k hk => by cases hk) (by kernel_rfl) (walResets_met os))) ?_
  intro W base args ds gs before hval hW _ _ _ hL _ _
  exact walResets_contract H enc W base args ds gs before hval hW hL

set_option maxRecDepth 100000 in
theorem walResets_said : Rows.WalResetsSaid :=
  OpenClaim.holds_of_cond 5 Tryd.f5 rfl rfl rfl rfl rfl rfl rfl ⟨rfl, rfl, rfl, rfl, rfl⟩ rfl rfl rfl rfl rfl (by kernel_rfl) Tryd.func5 (by kernel_rfl)
    (of_decide_eq_true (by kernel_rfl)) (by unfold Func.isWrapper; first | (rw [if_pos (by decide +kernel)]; kernel_rfl) | (rw [if_neg (by decide +kernel)]; exact ⟨rfl, rfl⟩))
    (fun os started H enc _ F => by rw [OpenClaim.pre_eq_preRow]; exact walResets_lifted os started H enc F)

set_option maxRecDepth 100000 in
theorem walResets_plain (f : FuncId) (fn : Func) (hf : Tryd.pinned.checked.prog.funcNamed Rows.walResetsRow.func = some f) (hfn : Tryd.pinned.checked.prog.funcs[f]? = some fn) :
    false = Tryd.pinned.checked.prog.looks [] ∧ ∀ (j : Nat) t, fn.params[j]? = some t → Tryd.pinned.checked.prog.wantsStandIn t = false := by
  obtain rfl : f = 5 := Option.some.inj ((show Tryd.prog.funcNamed Rows.walResetsRow.func = some 5 by kernel_rfl).symm.trans hf) |>.symm
  obtain rfl : fn = Tryd.f5 := (Option.some.inj (Tryd.func5.symm.trans hfn)).symm
  refine ⟨by kernel_rfl, fun j t ht => ?_⟩
  rw [Tryd.params5] at ht
  have hm := Array.mem_of_getElem? ht
  simp only [List.mem_toArray, List.mem_cons, List.not_mem_nil, or_false] at hm
  rcases hm with rfl | rfl | rfl | rfl
  all_goals first
    | exact (show Tryd.prog.wantsStandIn 31 = false by kernel_rfl)
    | exact (show Tryd.prog.wantsStandIn 5 = false by kernel_rfl)
    | exact (show Tryd.prog.wantsStandIn 3 = false by kernel_rfl)

set_option maxRecDepth 100000 in
theorem walResets_card : Rows.WalResetsCardSaid :=
  Claim7.holds_tied_plain_at .later [] _ _ _ _ walResets_said (fun _ h => by cases h) (by kernel_rfl) (fun _ h => by cases h) walResets_row_tie rfl ⟨rfl, rfl⟩ (by kernel_rfl) rfl walResets_plain (by kernel_rfl)
#print axioms walResets_card
end Go.Proofs.YtilimfbjkgeciaaDoor
