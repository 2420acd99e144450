/-
  looksOf and read of the code. Conditions: lengths as written; the program's variables hold what they hold.
-/
import Derived.Test.YtacniohflhpgaaaDoorPLook
import Derived.Laws.EntriesVeiled
namespace Go.Proofs.YtacniohflhpgaaaDoor
open Go.RowKit

/-- The four looks, as values. -/
abbrev looks (b : Nat) : Array Value := #[.func (.func 44) #[] #[.pointer (some ⟨b, 0, none⟩)], .func (.func 45) #[] #[.pointer (some ⟨b, 0, none⟩)], .func (.func 46) #[] #[.pointer (some ⟨b, 0, none⟩)], .func (.func 48) #[] #[.pointer (some ⟨b, 0, none⟩)]]
set_option maxHeartbeats 1000000 in
theorem looks_any (g : Nat) (w : World) :
    Calls Tryd.prog 31 #[.pointer (some ⟨g, 0, none⟩)] w fun e w' => e = .returned (.agg (looks w.heap.size)) ∧ Bk w' w.heap.size 62 #[.pointer (some ⟨g, 0, none⟩)] ∧ Old w w' := by
  go_enter Tryd.func31, Tryd.ntmps31
  go_wp2
  exact bodyPost_ret (v := .agg (looks w.heap.size)) (by simp [results, Tryd.results31, go_sem]) rfl ⟨rfl, (new_bk _ _ _).alloc _, ((Old.re _).al _).al _⟩

def zeroC : Cel := ⟨[], [], 0, 0, false, []⟩
theorem lineO_len {l : List UInt8} (h : (spl 32 l).length ≠ 4) : lineO l = none := by
  unfold lineO lineW
  split
  · rename_i hs; rw [hs] at h; simp at h
  · rfl
theorem four {α : Type} {L : List α} (h : L.length = 4) : ∃ a b c d, L = [a, b, c, d] := by
  match L, h with
  | [a, b, c, d], _ => exact ⟨a, b, c, d, rfl⟩
/-- What read answers of these four words. -/
theorem lineW_four (a b c d : List UInt8) : lineW [a, b, c, d] = if nameB a = true ∧ nameB b = true ∧ (digO c).isSome = true ∧ lastB d = true then some (lastC ⟨a, b, puN c, 0, false, []⟩ d) else none := by
  simp only [lineW]
  by_cases h1 : nameB a = true ∧ nameB b = true
  · rw [if_pos h1]
    rw [digO_pu]
    by_cases h2 : puB c = true ∧ c.length ≤ 18
    · rw [if_pos h2]
      cases d with
      | nil => simp [lastO, lastB]
      | cons x v =>
        show lastO a b (puN c) (x :: v) = _
        rw [lastO_cons]
        by_cases hx : x = 61
        · subst hx
          rw [if_pos rfl]
          by_cases hv : valB v = true <;> simp [lastB, lastC, hv, h1]
        · rw [if_neg hx]
          by_cases hv : x = 45 ∧ v = []
          · obtain ⟨rfl, rfl⟩ := hv
            simp [lastB, lastC, h1]
          · rw [if_neg hv, if_neg (by simp [lastB, hx]; intro _ _ h3; exact fun h4 => hv ⟨h3, h4⟩)]
    · rw [if_neg h2]
      simp
  · rw [if_neg h1, if_neg (fun h => h1 ⟨h.1, h.2.1⟩)]

set_option maxHeartbeats 2000000 in
theorem read_any (l : List UInt8) (w : World) (hv : Env w) (hl : l.length ≤ 1000000000) :
    Calls Tryd.prog 20 #[.string (B l)] w fun e w' => e = .returned (.tuple #[cv ((lineO l).getD zeroC), .bool (lineO l).isSome]) ∧ Old w w' := by
  have C := fun W (h : Env W) => split_any 32 l W h (by omega)
  by_cases h4 : (spl 32 l).length = 4
  · obtain ⟨a, b, c, d, hs⟩ := four h4
    have la := (spl_mem 32 l a (by rw [hs]; simp)).2
    have lb := (spl_mem 32 l b (by rw [hs]; simp)).2
    have lc := (spl_mem 32 l c (by rw [hs]; simp)).2
    have ld := (spl_mem 32 l d (by rw [hs]; simp)).2
    have HO := Lib.hid ((congrArg lineW hs).trans (lineW_four a b c d))
    rw [← show lineO l = lineW (spl 32 l) from rfl] at HO
    obtain ⟨O, hO⟩ : ∃ O, O = lineO l := ⟨_, rfl⟩
    rw [← hO] at HO ⊢
    rw [hs] at C
    clear hO hs h4
    have ka : a.length ≤ 1000000000000000 := by omega
    have kb : b.length ≤ 1000000000000000 := by omega
    have kc : c.length ≤ 4000000000 := by omega
    have kd : d.length ≤ 4000000000 := by omega
    clear la lb lc ld hl
    go_enter Tryd.func20, Tryd.ntmps20
    go_wp2_with (go_at_call 31; refine (looks_any _ _).mono ?_; rintro e W3 ⟨rfl, hbox, ho⟩; refine Hid.out ?_)
    have o3 : Old w W3 := (((Old.re _).al _).al _).tr ho
    have hr : Bk W3 w.heap.size 33 zeroCell := ((new_bk w _ _).alloc _).old ho
    have hc : Bk W3 (w.heap.size + 1) 33 (cells zeroC) := (new_bk1 w _ _ _).old ho
    have hb : Bk W3 (w.heap.size + 1 + 1) 62 #[.pointer (some ⟨w.heap.size + 1, 0, none⟩)] := by simpa using hbox
    clear hbox
    have hlt := hb.lt
    refine Lib.hid ?_
    go_wp2_with (go_at_call 18; refine (C _ (hv.old (o3.al _))).mono ?_; rintro e W5 ⟨rfl, rfl⟩; refine Hid.out ?_)
    have o5 := (o3.al (.cells (looks (w.heap.size + 1 + 1)) 60)).al (.cells (tx [a, b, c, d]) 9)
    have hr5 := (hr.alloc (.cells (looks (w.heap.size + 1 + 1)) 60)).alloc (.cells (tx [a, b, c, d]) 9)
    have hc5 := (hc.alloc (.cells (looks (w.heap.size + 1 + 1)) 60)).alloc (.cells (tx [a, b, c, d]) 9)
    have hb5 := (hb.alloc (.cells (looks (w.heap.size + 1 + 1)) 60)).alloc (.cells (tx [a, b, c, d]) 9)
    have hL5 := (new_bk W3 60 (looks (w.heap.size + 1 + 1))).alloc (.cells (tx [a, b, c, d]) 9)
    have hT5 := new_bk1 W3 (.cells (looks (w.heap.size + 1 + 1)) 60) 9 (tx [a, b, c, d])
    have hx5 := Bx.mk hb5 hc5
    clear hr hc hb hb5 hc5
    generalize (W3.alloc (.cells (looks (w.heap.size + 1 + 1)) 60)).alloc (.cells (tx [a, b, c, d]) 9) = W5 at *
    generalize W3.heap.size = m at *
    clear o3 ho C W3
    have hne : w.heap.size + 1 + 1 ≠ w.heap.size + 1 := by omega
    have hnr : w.heap.size ≠ w.heap.size + 1 := by omega
    have hnL : m ≠ w.heap.size + 1 := by omega
    have hnT : m + 1 ≠ w.heap.size + 1 := by omega
    have v5 := hv.old o5
    clear hlt
    have t0 : W5.cell? ⟨m + 1, 0, none⟩ = some (.string (B a)) := hT5.cell 0
    have f0 : W5.cell? ⟨m, 0, none⟩ = some (.func (.func 44) #[] #[.pointer (some ⟨w.heap.size + 1 + 1, 0, none⟩)]) := hL5.cell 0
    refine Lib.hid ?_
    go_wp2_with fail
    refine wp_loop_rounds 5 ?_
    rw [rounds_succ]
    go_wp2_with (go_at_call 44; refine (look1_any a _ _ _ _ hx5 hne ka).mono ?_; rintro e W6 ⟨rfl, hx6, ht6⟩; refine Hid.out ?_)
    have o6 : Old w W6 := o5.but ht6 (by omega)
    have hr6 := hr5.but ht6 hnr
    have hL6 := hL5.but ht6 hnL
    have hT6 := hT5.but ht6 hnT
    have v6 := hv.old o6
    clear t0 f0 o5 hr5 hL5 hT5 v5 hx5 ht6
    cases b0 : nameB a with
    | false =>
      have HN := Lib.hid (show O = none by rw [HO.out, if_neg (by simp [b0])])
      obtain ⟨r0, r1, r2, r3, r4, r5⟩ := hr6.six
      have q0 := hr6.fr
      refine Lib.hid ?_
      go_wp2
      exact bodyPost_ret (v := .tuple #[.agg zeroCell, .bool false]) (by simp [results, Tryd.results20, go_sem, r0, r1, r2, r3, r4, r5]) rfl ⟨by rw [HN.out]; rfl, by first | exact old6 o6 _ _ _ _ _ _ | exact o6⟩
    | true =>
      clear W5
      have t1 : W6.cell? ⟨m + 1, 1, none⟩ = some (.string (B b)) := hT6.cell 1
      have f1 : W6.cell? ⟨m, 1, none⟩ = some (.func (.func 45) #[] #[.pointer (some ⟨w.heap.size + 1 + 1, 0, none⟩)]) := hL6.cell 1
      refine Lib.hid ?_
      go_wp2_with fail
      rw [rounds_succ]
      go_wp2_with (go_at_call 45; refine (look2_any b _ _ _ _ hx6 hne kb).mono ?_; rintro e W7 ⟨rfl, hx7, ht7⟩; refine Hid.out ?_)
      have o7 : Old w W7 := o6.but ht7 (by omega)
      have hr7 := hr6.but ht7 hnr
      have hL7 := hL6.but ht7 hnL
      have hT7 := hT6.but ht7 hnT
      have v7 := hv.old o7
      clear t1 f1 o6 hr6 hL6 hT6 v6 hx6 ht7
      cases b1 : nameB b with
      | false =>
        have HN := Lib.hid (show O = none by rw [HO.out, if_neg (by simp [b1])])
        obtain ⟨r0, r1, r2, r3, r4, r5⟩ := hr7.six
        have q0 := hr7.fr
        refine Lib.hid ?_
        go_wp2
        exact bodyPost_ret (v := .tuple #[.agg zeroCell, .bool false]) (by simp [results, Tryd.results20, go_sem, r0, r1, r2, r3, r4, r5]) rfl ⟨by rw [HN.out]; rfl, by first | exact old6 o7 _ _ _ _ _ _ | exact o7⟩
      | true =>
        clear W6
        have t2 : W7.cell? ⟨m + 1, 2, none⟩ = some (.string (B c)) := hT7.cell 2
        have f2 : W7.cell? ⟨m, 2, none⟩ = some (.func (.func 46) #[] #[.pointer (some ⟨w.heap.size + 1 + 1, 0, none⟩)]) := hL7.cell 2
        refine Lib.hid ?_
        go_wp2_with fail
        rw [rounds_succ]
        go_wp2_with (go_at_call 46; refine (look3_any c _ _ _ _ v7 hx7 hne kc).mono ?_; rintro e W8 ⟨rfl, hx8, ht8⟩; refine Hid.out ?_)
        have o8 : Old w W8 := o7.but ht8 (by omega)
        have hr8 := hr7.but ht8 hnr
        have hL8 := hL7.but ht8 hnL
        have hT8 := hT7.but ht8 hnT
        have v8 := hv.old o8
        clear t2 f2 o7 hr7 hL7 hT7 v7 hx7 ht8
        cases b2 : (digO c).isSome with
        | false =>
          have HN := Lib.hid (show O = none by rw [HO.out, if_neg (by simp [b2])])
          obtain ⟨r0, r1, r2, r3, r4, r5⟩ := hr8.six
          have q0 := hr8.fr
          refine Lib.hid ?_
          go_wp2
          exact bodyPost_ret (v := .tuple #[.agg zeroCell, .bool false]) (by simp [results, Tryd.results20, go_sem, r0, r1, r2, r3, r4, r5]) rfl ⟨by rw [HN.out]; rfl, by first | exact old6 o8 _ _ _ _ _ _ | exact o8⟩
        | true =>
          clear W7
          have t3 : W8.cell? ⟨m + 1, 3, none⟩ = some (.string (B d)) := hT8.cell 3
          have f3 : W8.cell? ⟨m, 3, none⟩ = some (.func (.func 48) #[] #[.pointer (some ⟨w.heap.size + 1 + 1, 0, none⟩)]) := hL8.cell 3
          refine Lib.hid ?_
          go_wp2_with fail
          rw [rounds_succ]
          go_wp2_with (go_at_call 48; refine (look4_any d _ _ _ _ hx8 hne kd).mono ?_; rintro e W9 ⟨rfl, hx9, ht9⟩; refine Hid.out ?_)
          have o9 : Old w W9 := o8.but ht9 (by omega)
          have hr9 := hr8.but ht9 hnr
          have hL9 := hL8.but ht9 hnL
          have hT9 := hT8.but ht9 hnT
          have v9 := hv.old o9
          clear t3 f3 o8 hr8 hL8 hT8 v8 hx8 ht9
          cases b3 : lastB d with
          | false =>
            have HN := Lib.hid (show O = none by rw [HO.out, if_neg (by simp [b3])])
            obtain ⟨r0, r1, r2, r3, r4, r5⟩ := hr9.six
            have q0 := hr9.fr
            refine Lib.hid ?_
            go_wp2
            exact bodyPost_ret (v := .tuple #[.agg zeroCell, .bool false]) (by simp [results, Tryd.results20, go_sem, r0, r1, r2, r3, r4, r5]) rfl ⟨by rw [HN.out]; rfl, by first | exact old6 o9 _ _ _ _ _ _ | exact o9⟩
          | true =>
            clear W8
            have HN := Lib.hid (show O = _ by rw [HO.out, if_pos ⟨b0, b1, b2, b3⟩])
            obtain ⟨r0, r1, r2, r3, r4, r5⟩ := hr9.six
            have q0 := hr9.fr
            have hy : Bx W9 (w.heap.size + 1 + 1) (w.heap.size + 1) (lastC ⟨a, b, puN c, 0, false, []⟩ d) := hx9
            clear hx9 HO
            generalize lastC ⟨a, b, puN c, 0, false, []⟩ d = z at *
            obtain ⟨c0, c1, c2, c3, c4, c5⟩ := hy.cel.six
            refine Lib.hid ?_
            go_wp2_with fail
            rw [rounds_succ]
            go_wp2
            exact bodyPost_ret (v := .tuple #[cv z, .bool true]) (by simp [results, Tryd.results20, go_sem, r0, r1, r2, r3, r4, r5]) rfl ⟨by rw [HN.out]; rfl, by first | exact old6 o9 _ _ _ _ _ _ | exact o9⟩
  · rw [lineO_len h4]
    have n4 : ((spl 32 l).length : Int) ≠ 4 := by omega
    have n4' : (((spl 32 l).length : Int) == 4) = false := by rw [beq_eq_false_iff_ne]; exact n4
    generalize spl 32 l = L at *
    go_enter Tryd.func20, Tryd.ntmps20
    go_wp2_with (go_at_call 31; refine (looks_any _ _).mono ?_; rintro e W3 ⟨rfl, hbox, ho⟩; refine Hid.out ?_)
    have o3 : Old w W3 := (((Old.re _).al _).al _).tr ho
    have hr : Bk W3 w.heap.size 33 zeroCell := ((new_bk w _ _).alloc _).old ho
    refine Lib.hid ?_
    go_wp2_with (go_at_call 18; refine (C _ (hv.old (o3.al _))).mono ?_; rintro e W5 ⟨rfl, rfl⟩; refine Hid.out ?_)
    have o5 := (o3.al (.cells (looks (w.heap.size + 1 + 1)) 60)).al (.cells (tx L) 9)
    have hr5 := (hr.alloc (.cells (looks (w.heap.size + 1 + 1)) 60)).alloc (.cells (tx L) 9)
    generalize (W3.alloc (.cells (looks (w.heap.size + 1 + 1)) 60)).alloc (.cells (tx L) 9) = W5 at *
    obtain ⟨r0, r1, r2, r3, r4, r5⟩ := hr5.six
    have q0 := hr5.fr
    refine Lib.hid ?_
    go_wp2
    exact bodyPost_ret (v := .tuple #[.agg zeroCell, .bool false]) (by simp [results, Tryd.results20, go_sem, r0, r1, r2, r3, r4, r5]) rfl ⟨rfl, by first | exact old6 o5 _ _ _ _ _ _ | exact o5⟩
end Go.Proofs.YtacniohflhpgaaaDoor
