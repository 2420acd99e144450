/-
  MergePasses: whatever list of lists of items, and whatever number, come in, the law answers true, and leaves all as it was. No conditions.
-/
import Derived.Test.YtbccpplpfcfboaaPOpn
namespace Go.Proofs.Ytbccpplpfcfboaa
open Go.ChangeShapes Go.WideShapes Go.ChangeAt Go.RowKit Go.Joins Go.Deep

theorem its_it (w : World) (v : Value) (l : List Itm) (h : Itms w v l) (hl : l.length ≤ 50000) :
    Calls Try.prog 18 #[v] w fun e w' => ∃ u, e = .returned u ∧ Old w w' ∧ Itms w' u l :=
  (its_any w v l h hl).mono fun _ _ ⟨u, h1, h2, h3⟩ => ⟨u, h1, h2, h3.its⟩
theorem flat_le20 {Ls : List (List Itm)} (h : ∀ L ∈ Ls, L.length ≤ 20) : Ls.flatten.length ≤ 20 * Ls.length := by
  induction Ls with
  | nil => simp
  | cons L Ls ih =>
    have h1 := h L List.mem_cons_self
    have h2 := ih fun M hM => h M (List.mem_cons_of_mem _ hM)
    rw [List.flatten_cons, List.length_append, List.length_cons]
    omega
theorem many_le' {N m : Nat} (hm : 1 ≤ m) : many N m ≤ N := many_le hm
/-- Both Passes answer the same. -/
theorem both_pass (W : World) (v r : Value) (Ls : List (List Itm)) (h : Lsts W v Ls) (h' : Lsts W r Ls) (hl : Ls.length ≤ 20) (ht : Ls.flatten.length ≤ 400) (m : Int) (hm : m ≤ 9223372036854775807) :
    Calls Try.prog 15 #[v, .int .i64 m] W fun e W' => ∃ (u : Value) (er : Int) (Lo : List (List Itm)), e = .returned (.tuple #[u, .int .i64 er]) ∧ Lsts W' u Lo ∧ Lo.length ≤ 20 ∧ (∀ L ∈ Lo, L.length ≤ 400) ∧ Old W W' ∧
      ∀ W2, Old W' W2 → Calls Try.prog 16 #[r, .int .i64 m] W2 fun e W3 => ∃ u2, e = .returned (.tuple #[u2, .int .i64 er]) ∧ Lsts W3 u2 Lo ∧ Old W2 W3 := by
  by_cases h1 : m < 2
  · refine (pass_narrow v m h1 W).mono ?_
    rintro e W' ⟨rfl, o⟩
    refine ⟨_, 1, [], rfl, .inl ⟨rfl, rfl⟩, by simp, by simp, o, fun W2 _ => ?_⟩
    refine (rpass_narrow r m h1 W2).mono ?_
    rintro e W3 ⟨rfl, o3⟩
    exact ⟨_, rfl, .inl ⟨rfl, rfl⟩, o3⟩
  · have hlen : ∀ L ∈ Ls, L.length ≤ 100000 := fun L hL => by have := len_flat hL; omega
    cases hs : allB Ls with
    | false =>
      refine (pass_order W v Ls h (by omega) hlen hs m h1).mono ?_
      rintro e W' ⟨rfl, o⟩
      refine ⟨_, 40, [], rfl, .inl ⟨rfl, rfl⟩, by simp, by simp, o, fun W2 o2 => ?_⟩
      refine (rpass_order W2 r Ls ((h'.old o).old o2) (by omega) hlen hs m h1).mono ?_
      rintro e W3 ⟨rfl, o3⟩
      exact ⟨_, rfl, .inl ⟨rfl, rfl⟩, o3⟩
    | true =>
      have hst := (allB_iff Ls).1 hs
      obtain ⟨k, rfl⟩ := Int.eq_ofNat_of_zero_le (show 0 ≤ m by omega)
      refine (pass_any W v Ls h (by omega) (by omega) hst k (by omega) (by omega)).mono ?_
      rintro e W' ⟨u, Lo, rfl, hp, hLo, hle, o⟩
      refine ⟨u, 0, Lo, rfl, hLo, ?_, fun L hL => by have := len_flat hL; omega, o, fun W2 o2 => ?_⟩
      · rw [hp.1]
        have := many_le (N := Ls.length) (m := k) (by omega)
        omega
      · refine (rpass_any W2 r Ls ((h'.old o).old o2) (by omega) (by omega) hst k (by omega) (by omega)).mono ?_
        rintro e W3 ⟨u2, Lo2, rfl, hp2, hLo2, -, o3⟩
        rw [← hp.uniq hp2] at hLo2
        exact ⟨u2, rfl, hLo2, o3⟩
/-- Both Alls answer the same. -/
theorem both_all (W : World) (v r : Value) (Ls : List (List Itm)) (h : Lsts W v Ls) (h' : Lsts W r Ls) (hl : Ls.length ≤ 20) (ht : Ls.flatten.length ≤ 400) (m : Int) (hm : m ≤ 9223372036854775807) :
    Calls Try.prog 19 #[v, .int .i64 m] W fun e W' => ∃ (u : Value) (p er : Int) (out : List Itm), e = .returned (.tuple #[u, .int .i64 p, .int .i64 er]) ∧ Itms W' u out ∧ out.length ≤ 400 ∧ Old W W' ∧
      ∀ W2, Old W' W2 → Calls Try.prog 20 #[r, .int .i64 m] W2 fun e W3 => ∃ u2, e = .returned (.tuple #[u2, .int .i64 p, .int .i64 er]) ∧ Itms W3 u2 out ∧ Old W2 W3 := by
  obtain ⟨A, cap, hv, -⟩ := h.form
  by_cases h1 : m < 2
  · refine (all_err W v Ls.length A cap hv m 1 (.inl rfl) (pass_narrow v m h1 W)).mono ?_
    rintro e W' ⟨rfl, o⟩
    refine ⟨_, 0, 1, [], rfl, .inl ⟨rfl, rfl⟩, by simp, o, fun W2 _ => ?_⟩
    refine (rall_narrow r m h1 W2).mono ?_
    rintro e W3 ⟨rfl, o3⟩
    exact ⟨_, rfl, .inl ⟨rfl, rfl⟩, o3⟩
  · have hlen : ∀ L ∈ Ls, L.length ≤ 100000 := fun L hL => by have := len_flat hL; omega
    cases hs : allB Ls with
    | false =>
      refine (all_err W v Ls.length A cap hv m 40 (.inr rfl) (pass_order W v Ls h (by omega) hlen hs m h1)).mono ?_
      rintro e W' ⟨rfl, o⟩
      refine ⟨_, 0, 40, [], rfl, .inl ⟨rfl, rfl⟩, by simp, o, fun W2 o2 => ?_⟩
      refine (rall_order W2 r Ls ((h'.old o).old o2) (by omega) hlen hs m h1).mono ?_
      rintro e W3 ⟨rfl, o3⟩
      exact ⟨_, rfl, .inl ⟨rfl, rfl⟩, o3⟩
    | true =>
      have hst := (allB_iff Ls).1 hs
      obtain ⟨k, rfl⟩ := Int.eq_ofNat_of_zero_le (show 0 ≤ m by omega)
      refine (all_any W v Ls h (by omega) (by omega) hst k (by omega) (by omega)).mono ?_
      rintro e W' ⟨u, out, p, rfl, ha, hi, hle, o⟩
      refine ⟨u, p, 0, out, rfl, hi, by omega, o, fun W2 o2 => ?_⟩
      refine (rall_any W2 r Ls ((h'.old o).old o2) (by omega) (by omega) hst k (by omega) (by omega)).mono ?_
      rintro e W3 ⟨u2, out2, p2, rfl, ha2, hi2, -, o3⟩
      obtain ⟨rfl, rfl⟩ := ha.uniq ha2
      exact ⟨u2, rfl, hi2, o3⟩
/-- Both Groups answer the same. -/
theorem both_group (W : World) (v r : Value) (Ls : List (List Itm)) (h : Lsts W v Ls) (h' : Lsts W r Ls) (hl : Ls.length ≤ 20) (ht : Ls.flatten.length ≤ 400) :
    Calls Try.prog 21 #[v] W fun e W' => ∃ (u : Value) (out : List Itm), e = .returned u ∧ Itms W' u out ∧ out.length ≤ 400 ∧ Old W W' ∧
      ∀ W2, Old W' W2 → Calls Try.prog 22 #[r] W2 fun e W3 => ∃ u2, e = .returned u2 ∧ Itms W3 u2 out ∧ Old W2 W3 := by
  refine (group_any W v Ls h (by omega) (by omega)).mono ?_
  rintro e W' ⟨u, out, rfl, hg, hle, o, hr⟩
  refine ⟨u, out, rfl, hr.its, by omega, o, fun W2 o2 => ?_⟩
  refine (rgroup_any W2 r Ls ((h'.old o).old o2) (by omega) (by omega)).mono ?_
  rintro e W3 ⟨u2, out2, rfl, hg2, -, o3, hi, -⟩
  rw [← hg.uniq hg2] at hi
  exact ⟨u2, rfl, hi, o3⟩
theorem l2_old {w W W' : World} {g h i j : Nat} {x y : Value} {l : List Itm} (k0 : Old w W ∧ W.cell? ⟨g, i, none⟩ = some x ∧ W.cell? ⟨h, j, none⟩ = some y ∧ Itms W x l ∧ Itms W y l) (k : Old W W') : Old w W' ∧ W'.cell? ⟨g, i, none⟩ = some x ∧ W'.cell? ⟨h, j, none⟩ = some y ∧ Itms W' x l ∧ Itms W' y l := ⟨k0.1.tr k, cell_old k0.2.1 k, cell_old k0.2.2.1 k, k0.2.2.2.1.old k, k0.2.2.2.2.old k⟩
theorem l2_x {w W : World} {g h i j : Nat} {x y : Value} {l : List Itm} (k0 : Old w W ∧ W.cell? ⟨g, i, none⟩ = some x ∧ W.cell? ⟨h, j, none⟩ = some y ∧ Itms W x l ∧ Itms W y l) : Itms W x l := k0.2.2.2.1
theorem l2_y {w W : World} {g h i j : Nat} {x y : Value} {l : List Itm} (k0 : Old w W ∧ W.cell? ⟨g, i, none⟩ = some x ∧ W.cell? ⟨h, j, none⟩ = some y ∧ Itms W x l ∧ Itms W y l) : Itms W y l := k0.2.2.2.2

set_option maxRecDepth 100000 in
set_option maxHeartbeats 8000000 in
theorem law_passes (v : Value) (Ls : List (List Itm)) (m : Int) (w : World) (h : Lsts w v Ls) (hsz : ∀ L ∈ Ls, L.length * 72 ≤ 140737488355328) (hm : m ≤ 9223372036854775807) :
    Calls Try.prog 4 #[v, .int .i64 m] w fun e w' => e = .returned (.bool true) ∧ Old w w' := by
  obtain ⟨A0, cap0, rfl, hc0⟩ := h.form
  have HI := Lib.hid h
  have HSZ := Lib.hid hsz
  clear h hsz
  go_enter Try.func4, Try.ntmps4
  by_cases hlen : 20 < Ls.length
  · have i0 : (20 : Int) < (Ls.length : Int) := by omega
    go_wp2_with fail
    refine (shown_any _).mono ?_
    rintro e w2 ⟨rfl, o2⟩
    go_wp2
    go_ret
    exact ⟨rfl, o2⟩
  · have i0 : ¬ (20 : Int) < (Ls.length : Int) := by omega
    go_wp2_with fail
    refine (shown_any _).mono ?_
    rintro e w2 ⟨rfl, o2⟩
    go_wp2_with fail
    go_loopw [5] (fun iv wr => ∃ k : Nat, iv = .int .i64 k ∧ k ≤ Ls.length ∧ Old w wr ∧ Hid (∀ i L, i < k → Ls[i]? = some L → L.length ≤ 20)) (fun iv _ => Ls.length - (intOf iv).toNat)
    case atStart => exact ⟨0, rfl, Nat.zero_le _, o2, Lib.hid fun i L hi => absurd hi (by omega)⟩
    case round =>
      obtain ⟨k, rfl, hk, o3, HK⟩ := hrel
      by_cases hlt : k < Ls.length
      · obtain ⟨L, HX⟩ : ∃ L, Hid (Ls[k]? = some L) := ⟨Ls[k], Lib.hid (List.getElem?_eq_getElem hlt)⟩
        have hLs := HSZ.out L (List.mem_of_getElem? HX.out)
        obtain ⟨b, off, u, rfl, hu, hit⟩ := (HI.out.old o3).at_ HX.out
        obtain ⟨Au, cu, rfl, -⟩ := hit.form
        have C := mcells_any wr _ L hit hLs
        have hu' := fun W (o : Old wr W) => cell_old hu o
        have HU := Lib.hid hu'
        clear hit hu'
        go_wp2_with fail
        refine C.mono ?_
        clear C
        rintro e w3 ⟨uc, rfl, o4, hcl⟩
        obtain ⟨cs, hcs⟩ : ∃ cs, L.map (·.c) = cs := ⟨_, rfl⟩
        rw [hcs] at hcl
        have hcsl : cs.length = L.length := by rw [← hcs, List.length_map]
        have C := bounded_any w3 uc cs hcl (by rw [hcsl]; unfold maxLen; omega)
        obtain ⟨Ac, cc, rfl, -⟩ := hcl.form
        have hu3 := HU.out w3 o4
        have o5 := o3.tr o4
        clear hcl hcs hcsl hu HU o4
        go_wp2_with fail
        refine C.mono ?_
        clear C
        rintro e w4 ⟨rfl, rfl⟩
        cases hbd : boundedB cs with
        | false =>
          go_wp2_with fail
          refine (shown_any _).mono ?_
          rintro e w5 ⟨rfl, o6⟩
          go_wp2
          go_ret
          exact ⟨rfl, o5.tr o6⟩
        | true =>
          clear hbd
          by_cases hl20 : 20 < L.length
          · have i1 : (20 : Int) < (L.length : Int) := by omega
            go_wp2_with fail
            refine (shown_any _).mono ?_
            rintro e w5 ⟨rfl, o6⟩
            go_wp2
            go_ret
            exact ⟨rfl, o5.tr o6⟩
          · have i1 : ¬ (20 : Int) < (L.length : Int) := by omega
            have HK2 : Hid (∀ i L, i < k + 1 → Ls[i]? = some L → L.length ≤ 20) := Lib.hid fun i M hi hM => by
              by_cases h : i < k
              · exact HK.out i M h hM
              · obtain rfl : i = k := by omega
                have := HX.out
                rw [hM] at this
                injection this with this
                subst this
                omega
            clear HX HK hLs
            go_wp2
            go_round
            case rel => exact ⟨k + 1, by go_num, by omega, o5, HK2⟩
            case measure => simp [intOf]; omega
      · obtain rfl : k = Ls.length := by omega
        have h20 : ∀ L ∈ Ls, L.length ≤ 20 := fun L hL => by
          obtain ⟨i, hi, rfl⟩ := List.getElem_of_mem hL
          exact HK.out i _ hi (List.getElem?_eq_getElem hi)
        have hfl : Ls.flatten.length ≤ 400 := by have := flat_le20 h20; omega
        have HFL := Lib.hid (And.intro hfl h20)
        have C := rits_any wr _ Ls (HI.out.old o3) (by omega) (fun L hL => by have := h20 L hL; omega)
        clear hfl h20 HK HSZ
        go_wp2_with fail
        refine C.mono ?_
        clear C
        rintro e w3 ⟨r, rfl, o4, hr⟩
        have o5 := o3.tr o4
        obtain ⟨Ar, cr, rfl, -⟩ := hr.form
        have HR := Lib.hid hr
        have C := both_pass w3 _ _ Ls (HI.out.old o5) hr (by omega) HFL.out.1 m hm
        clear hr
        go_wp2_with fail
        refine C.mono ?_
        clear C
        rintro e w4 ⟨u, er, Lo, rfl, hLo, hl1, hl2, o6, hn⟩
        obtain ⟨Au, cu, rfl, -⟩ := hLo.form
        have HA := Lib.hid hLo
        have C := hn w4 (Old.re _)
        have o7 := o5.tr o6
        clear hn hLo
        go_wp2_with fail
        refine C.mono ?_
        clear C
        rintro e w5 ⟨u2, rfl, hL2, o8⟩
        obtain ⟨A2, c2, rfl, -⟩ := hL2.form
        have HB := Lib.hid hL2
        have HL2 := Lib.hid hl2
        have o9 := o7.tr o8
        have HA5 := Lib.hid (HA.out.old o8)
        have HR5 := Lib.hid ((HR.out.old o6).old o8)
        clear hL2 hl2 HA HR
        go_wp2_with fail
        go_loopw [11] (fun iv wr => ∃ k : Nat, iv = .int .i64 k ∧ k ≤ Lo.length ∧ Old w5 wr) (fun iv _ => Lo.length - (intOf iv).toNat)
        case atStart => exact ⟨0, rfl, Nat.zero_le _, Old.re _⟩
        case round =>
          obtain ⟨k, rfl, hk, p1⟩ := hrel
          by_cases hlt : k < Lo.length
          · obtain ⟨L, HX⟩ : ∃ L, Hid (Lo[k]? = some L) := ⟨Lo[k], Lib.hid (List.getElem?_eq_getElem hlt)⟩
            have hLl := HL2.out L (List.mem_of_getElem? HX.out)
            obtain ⟨b, off, x, rfl, hx, hix⟩ := (HA5.out.old p1).at_ HX.out
            obtain ⟨b2, off2, y, rfl, hy, hiy⟩ := (HB.out.old p1).at_ HX.out
            have hS : Old wr wr ∧ wr.cell? ⟨b, off + k, none⟩ = some x ∧ wr.cell? ⟨b2, off2 + k, none⟩ = some y ∧ Itms wr x L ∧ Itms wr y L := ⟨Old.re _, hx, hy, hix, hiy⟩
            obtain ⟨Ax, cx, rfl, -⟩ := hix.form
            obtain ⟨Ay, cy, rfl, -⟩ := hiy.form
            have i1 : (0 : Int) ≤ (k : Int) := by omega
            have i2 : (k : Int) < (Lo.length : Int) := by omega
            have hl5 : L.length ≤ 50000 := by omega
            have hl6 : L.length ≤ 100000 := by omega
            clear hx hy hix hiy HX hLl
            go_upto_region 16 with (fail)
            go_region_held3 (fun W => Old wr W ∧ W.cell? ⟨b, off + k, none⟩ = some (.slice Ax L.length cx) ∧ W.cell? ⟨b2, off2 + k, none⟩ = some (.slice Ay L.length cy) ∧ Itms W (.slice Ax L.length cx) L ∧ Itms W (.slice Ay L.length cy) L) (first | exact l2_old hS (Old.re _).dr | assumption | exact l2_old (by assumption) (by assumption))
              (first
                | (go_at_call 18; with_reducible refine (its_it _ _ L (l2_x (by assumption)) hl5).mono ?_; rintro r w6 ⟨u6, rfl, h1b, h1c⟩)
                | (go_at_call 17; with_reducible refine (rsameL_any _ _ _ L (by assumption) (l2_y (by assumption)) hl6).mono ?_; rintro r w7 ⟨rfl, h1b⟩))
            rename_i hHeld
            have p2 := p1.tr hHeld.1
            clear hHeld hS
            go_wp2
            go_roundw
            case rel => exact ⟨k + 1, by go_num, by omega, p2⟩
            case measure => simp [intOf]; omega
          · obtain rfl : k = Lo.length := by omega
            have o10 := o9.tr p1
            have C := both_all wr _ _ Ls (HI.out.old o10) (HR5.out.old p1) (by omega) HFL.out.1 m hm
            go_wp2_with fail
            refine C.mono ?_
            clear C
            rintro e w6 ⟨x, pn, er2, out, rfl, hx, hxl, o11, hn⟩
            obtain ⟨Ax, cx, rfl, -⟩ := hx.form
            have HX := Lib.hid hx
            have C := hn w6 (Old.re _)
            have o12 := o10.tr o11
            clear hn hx
            go_wp2_with fail
            refine C.mono ?_
            clear C
            rintro e w7 ⟨y, rfl, hy, o13⟩
            obtain ⟨Ay, cy, rfl, -⟩ := hy.form
            have HY := Lib.hid hy
            have C := its_it w7 _ out (HX.out.old o13) (by omega)
            have o14 := o12.tr o13
            clear hy HX
            go_wp2_with fail
            refine C.mono ?_
            clear C
            rintro e w8 ⟨x2, rfl, o15, hx2⟩
            obtain ⟨Ax2, cx2, rfl, -⟩ := hx2.form
            have C := rsameL_any w8 _ _ out hx2 (HY.out.old o15) (by omega)
            have o16 := o14.tr o15
            clear hx2 HY
            go_wp2_with fail
            refine C.mono ?_
            clear C
            rintro e w9 ⟨rfl, o17⟩
            have o18 := o16.tr o17
            have C := both_group w9 _ _ Ls (HI.out.old o18) ((((((HR5.out.old p1).old o11).old o13).old o15).old o17)) (by omega) HFL.out.1
            go_wp2_with fail
            refine C.mono ?_
            clear C
            rintro e w10 ⟨gx, gout, rfl, hgx, hgl, o19, hn⟩
            obtain ⟨Ag, cg, rfl, -⟩ := hgx.form
            have C := its_it w10 _ gout hgx (by omega)
            have HN := Lib.hid hn
            have o20 := o18.tr o19
            clear hgx hn
            go_wp2_with fail
            refine C.mono ?_
            clear C
            rintro e w11 ⟨gx2, rfl, o21, hgx2⟩
            obtain ⟨Ag2, cg2, rfl, -⟩ := hgx2.form
            have HG := Lib.hid hgx2
            have C := HN.out w11 o21
            have o22 := o20.tr o21
            clear hgx2 HN
            go_wp2_with fail
            refine C.mono ?_
            clear C
            rintro e w12 ⟨gy, rfl, hgy, o23⟩
            obtain ⟨Ah, ch, rfl, -⟩ := hgy.form
            have C := rsameL_any w12 _ _ gout (HG.out.old o23) hgy (by omega)
            have o24 := o22.tr o23
            clear hgy HG
            go_wp2_with fail
            refine C.mono ?_
            clear C
            rintro e w13 ⟨rfl, o25⟩
            go_wp2
            go_ret
            exact ⟨rfl, o24.tr o25⟩

set_option maxRecDepth 100000 in
theorem mergePasses_lifted (os : Os) (started : os.Started) (H : Type) (enc : TypeId × Value → H) :
    ReturnsInHanded {} Try.checked os 4 .any (Rows.mergePassesSpec.pre6 enc Try.prog Try.f4 Rows.mergePassesRow.domain false) (Rows.mergePassesSpec.post enc Try.prog Try.f4 false true false false) := by
  refine returnsInHanded_of_change_sized (C := Try.checked) Try.own started (by kernel_rfl) Try.func4
    (ChangeSpec.witness6 (enc := enc) (C := Try.checked) false ⟨#[], #[.slice none 0 0, .int .i64 0], []⟩ 8 (by kernel_rfl) (by kernel_rfl) (by kernel_rfl) (by kernel_rfl)) ?_
  intro W base args ds gs before hval0 hW hcnd hsz0 _
  have hval : ∀ (j : Nat) t v, Try.f4.params[j]? = some t → args[j]? = some v → Value.okWide Try.prog W .any base t v := hval0
  have hW' := hW
  obtain ⟨p, q, hA0, hV, rfl, hfz, hnd⟩ := hW
  have hA : DataW.TrodAll enc Try.prog W 0 (fun _ => true) true Try.f4.params.toList args.toList ds p := hA0
  have hsz : (DataW.weightsEach Try.prog (Try.f4.params.toList ++ Rows.mergePassesSpec.plain.varTypes Try.prog) (ds ++ gs)).all (· ≤ reachBytes) = true := hsz0
  rw [Try.params4] at hA hval hsz
  obtain ⟨v0, v1, d0, d1, p0, p1, rfl, rfl, rfl, h0, h1⟩ := trodAll_two hA
  obtain ⟨rfl, rfl⟩ := trodVars_none hV
  have hlt : ∀ x ∈ p0 ++ (p1), x.block < W.heap.size := fun x hx => hW'.lt x (by simpa using hx)
  have k0 := h0
  have k1 := h1
  obtain ⟨a0, o0, m0, x0⟩ := open_lsts (hval 0 30 v0 rfl rfl) h0
  have b0 : ∀ L ∈ a0, L.length * 72 ≤ 140737488355328 := fun L hL => by
    obtain ⟨i, hi, rfl⟩ := List.getElem_of_mem hL
    rcases x0 i _ (List.getElem?_eq_getElem hi) with q | ⟨es, sp, es', sp', q1, q2, q3⟩
    · rw [q]; simp
    · have hw := sized_inner hsz (j := 0) (t := 30) (e := 32) (f := 59) (es := es) (sp := sp) rfl (by rw [q1]; rfl) Try.underlying30 Try.underlying32 q2
      rw [show Try.prog.bytesOf 59 = 80 by kernel_rfl] at hw
      unfold reachBytes at hw
      omega
  obtain ⟨a1, rfl, o1⟩ := open_i64 (hval 1 3 v1 rfl rfl) h1
  clear hA0 hval0 hsz0
  refine (law_passes v0 a0 a1 W o0 b0 o1).mono fun e W' ⟨he, hb⟩ => ?_
  subst he
  refine ⟨_, rfl, _, _, _, [], p0 ++ (p1), [], hW', trodAll_mk1 (shut_bool Try.underlying4 _), ?_, rfl, hb.frame _, fun h => by cases h⟩
  have r0 := Below.trod Try.laidOut (by kernel_rfl) (of_decide_eq_true (by kernel_rfl)) k0 hb (fun x hx => hlt x (by simp [hx]))
  have r1 := Below.trod Try.laidOut (by kernel_rfl) (of_decide_eq_true (by kernel_rfl)) k1 hb (fun x hx => hlt x (by simp [hx]))
  exact trodAll_mk2 r0 r1

theorem mergePasses_holds : Rows.MergePassesSaid :=
  OpenClaim.holds_of_wide 4 Try.f4 rfl rfl rfl rfl rfl rfl rfl ⟨rfl, rfl, rfl, rfl, rfl⟩ rfl rfl rfl rfl rfl (by kernel_rfl) Try.func4 (by kernel_rfl)
    (of_decide_eq_true (by kernel_rfl)) (by unfold Func.isWrapper; first | (rw [if_pos (by decide +kernel)]; kernel_rfl) | (rw [if_neg (by decide +kernel)]; exact ⟨rfl, rfl⟩))
    (fun os started H enc _ => mergePasses_lifted os started H enc)
#print axioms mergePasses_holds
end Go.Proofs.Ytbccpplpfcfboaa
