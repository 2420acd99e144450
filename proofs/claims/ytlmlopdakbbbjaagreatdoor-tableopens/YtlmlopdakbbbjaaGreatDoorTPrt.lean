/-
  Parts of eight: what the generic function answers. Condition: at most 100000 cells.
-/
import Derived.Test.YtlmlopdakbbbjaaGreatDoorTOne
namespace Go.Proofs.YtlmlopdakbbbjaaGreatDoor
open Go.RowKit

theorem prts_snoc {w0 : World} {b off cap : Nat} {ps : List (List Cel)} {p : List Cel} {vs : List Value} (h2 : vs.length = ps.length) (h3 : ∀ (i : Nat) (p : List Cel), ps[i]? = some p → ∃ b off cap, vs[i]? = some (Value.slice (some ⟨b, off, none⟩) p.length cap) ∧ p.length ≤ cap ∧ CelsAt w0 b off p)
    (h4 : CelsAt w0 b off p) (hc : p.length ≤ cap) : ∀ (i : Nat) (q : List Cel), (ps ++ [p])[i]? = some q → ∃ b' off' cap', (vs ++ [Value.slice (some ⟨b, off, none⟩) p.length cap])[i]? = some (Value.slice (some ⟨b', off', none⟩) q.length cap') ∧ q.length ≤ cap' ∧ CelsAt w0 b' off' q := by
  intro i q hq
  rcases Nat.lt_or_ge i ps.length with hi | hi
  · rw [List.getElem?_append_left hi] at hq
    obtain ⟨b', off', cap', e, h⟩ := h3 i q hq
    exact ⟨b', off', cap', by rw [List.getElem?_append_left (by omega)]; exact e, h⟩
  · rw [List.getElem?_append_right hi] at hq
    rw [List.getElem?_append_right (by omega), h2]
    cases hk : i - ps.length with
    | zero =>
      rw [hk] at hq
      simp only [List.getElem?_cons_zero, Option.some.injEq] at hq
      subst hq
      exact ⟨b, off, cap, rfl, hc, h4⟩
    | succ k =>
      rw [hk] at hq
      simp at hq

theorem sl_to (b off len cap n : Nat) (h : n ≤ cap) (w : World) : (Instr.slice 22 (.slice (some ⟨b, off, none⟩) len cap) none (some (.int .i64 (n : Int))) none).run Tryz.prog w = .ok (.slice (some ⟨b, off, none⟩) n cap) w := by
  go_simp
theorem sl_from (b off len cap n : Nat) (h : n ≤ len) (w : World) : (Instr.slice 22 (.slice (some ⟨b, off, none⟩) len cap) (some (.int .i64 (n : Int))) none none).run Tryz.prog w = .ok (.slice (if cap = n then some ⟨b, off, none⟩ else some ⟨b, off + n * 6, none⟩) (len - n) (cap - n)) w := by
  go_simp
set_option maxRecDepth 100000 in
set_option maxHeartbeats 4000000 in
theorem parts_any (v : Value) (l : List Cel) (w : World) (h : CelC w v l) (hml : l.length ≤ 100000) :
    Calls Tryz.prog 47 #[v, .int .i64 8] w fun e w' => ∃ v', e = .returned v' ∧ Prts w' w.heap.size v' (parts l) ∧ Old w w' := by
  go_enter Tryz.func47, Tryz.ntmps47
  go_wp2_with fail
  go_loopw [0, 5] (fun vl vc wr => ∃ (rest : List Cel) (ps : List (List Cel)) (vs : List Value), CelC w vl rest ∧ rest.length ≤ l.length ∧ Hid (parts l = ps ++ parts rest) ∧ ps.length ≤ 100000 ∧ wr.ownsRow w.heap.size 22 1 vc ps.length vs ∧ vs.length = ps.length ∧ Hid (∀ (i : Nat) (p : List Cel), ps[i]? = some p → ∃ b off cap, vs[i]? = some (Value.slice (some ⟨b, off, none⟩) p.length cap) ∧ p.length ≤ cap ∧ CelsAt w b off p) ∧ Old w wr) (fun vl _ _ => sliceLen vl)
  case atStart => exact ⟨l, [], [], h, Nat.le_refl _, Lib.hid rfl, by simp, World.ownsRow_nil _ _ _ _, rfl, Lib.hid (by simp), Old.re _⟩
  case round =>
    obtain ⟨rest, ps, vs, ⟨A, cap, rfl, hcap, hC⟩, hr, HP, hpl, hown, hvl, HV, hw⟩ := hrel
    by_cases hz : rest.length = 0
    · have hnil : rest = [] := List.eq_nil_of_length_eq_zero hz
      subst hnil
      have HP2 := Lib.hid (show parts l = ps by have := HP.out; rwa [parts_nil, List.append_nil] at this)
      go_wp2
      go_ret
      refine ⟨_, rfl, ⟨vs, ?_, ?_, ?_⟩, hw⟩
      · rw [HP2.out]; exact hown
      · rw [HP2.out]; exact hvl
      · rw [HP2.out]
        intro i p hp
        obtain ⟨b, off, cap, e, h1, h2⟩ := HV.out i p hp
        exact ⟨b, off, cap, e, h1, h2.old hw⟩
    · have hpos : decide ((0 : Int) < (rest.length : Int)) = true := by simp; omega
      obtain ⟨b, off, rfl, hCA⟩ := hC (by rintro rfl; exact hz rfl)
      obtain ⟨n, hn8, hnr, hn1, HN, HMn⟩ : ∃ n : Nat, n ≤ 8 ∧ n ≤ rest.length ∧ 1 ≤ n ∧ Hid (parts rest = rest.take n :: parts (rest.drop n)) ∧ (if (rest.length : Int) < 8 then (rest.length : Int) else 8) = (n : Int) := by
        have hp := parts_cons (l := rest) (by rintro rfl; exact hz rfl)
        by_cases h8 : 8 ≤ rest.length
        · exact ⟨8, by omega, h8, by omega, Lib.hid hp, by rw [if_neg (by omega)]; rfl⟩
        · refine ⟨rest.length, by omega, by omega, by omega, Lib.hid ?_, by rw [if_pos (by omega)]⟩
          rw [hp, List.take_of_length_le (by omega), List.drop_of_length_le (by omega), List.take_length, List.drop_length]
      have c1 : (n : Int) ≤ (cap : Int) := by omega
      have c2 : (n : Int) ≤ (rest.length : Int) := by omega
      have c3 : n ≤ cap := by omega
      have hif : ∃ A2, (if cap = n then some (⟨b, off, none⟩ : Addr) else some ⟨b, off + n * 6, none⟩) = A2 ∧ (rest.drop n ≠ [] → ∃ b off, A2 = some ⟨b, off, none⟩ ∧ CelsAt w b off (rest.drop n)) := by
        refine ⟨_, rfl, fun hne => ?_⟩
        have hlt : n < rest.length := by
          rcases Nat.lt_or_ge n rest.length with h | h
          · exact h
          · exact absurd (List.drop_of_length_le h) hne
        exact ⟨b, off + n * 6, if_neg (by omega), hCA.drop_ n⟩
      obtain ⟨A2, hA2, hC2⟩ := hif
      have HC2 := Lib.hid hC2
      clear hC2 hC
      go_upto_region 4 with (fail)
      clear HMn
      have hto := fun W => sl_to b off rest.length cap n c3 W
      have hfr := fun W => sl_from b off rest.length cap n hnr W
      rw [hA2] at hfr
      clear hA2 c1 c2 hpos
      go_region_held_law (fun W => Old w W) (repeat (first | with_reducible exact Old.re _ | with_reducible assumption | with_reducible apply Old.al | with_reducible apply Old.dr | with_reducible apply Old.dn))
        (first
          | (refine step_one rfl (some 19) rfl (.tmp 14) (.tmp 18) 54 22 (.slice none 0 0) 24 (by decide) Tryz.underlying54 rfl Tryz.infoSl rfl (W0 := w) (by repeat (first | with_reducible exact Old.re _ | with_reducible assumption | with_reducible apply Old.al | with_reducible apply Old.dr | with_reducible apply Old.dn)) _ vs ps.length rfl (row_old hown (by repeat (first | with_reducible exact Old.re _ | with_reducible assumption | with_reducible apply Old.al | with_reducible apply Old.dr | with_reducible apply Old.dn))) (.slice (some ⟨b, off, none⟩) n cap) rfl _ 1 rfl (by first | with_reducible exact new_bk _ _ _ | with_reducible exact (new_bk _ _ _).drew) hpl ?_; intro v5 w5 n5 o5 hk5))
      all_goals
        clear hk5 hto hfr
        have hdl : (rest.drop n).length = rest.length - n := by simp
        have htl : (rest.take n).length = n := by simp; omega
        go_wp2
        go_roundw
        case rel =>
          refine ⟨rest.drop n, ps ++ [rest.take n], vs ++ [.slice (some ⟨b, off, none⟩) n cap], ⟨A2, cap - n, by rw [hdl], by omega, HC2.out⟩, by omega, Lib.hid ?_, ?_, by simpa using n5, by simp [hvl], Lib.hid ?_, o5⟩
          · rw [HP.out, HN.out]; simp
          · have h1 := congrArg List.length HP.out
            rw [HN.out, List.length_append, List.length_cons, parts_len] at h1
            simp only [List.length_append, List.length_cons, List.length_nil]
            omega
          · have := prts_snoc (b := b) (off := off) (cap := cap) (p := rest.take n) hvl HV.out (hCA.take_ n) (by omega)
            rwa [htl] at this
        case measure => simp [sliceLen]; omega
end Go.Proofs.YtlmlopdakbbbjaaGreatDoor
