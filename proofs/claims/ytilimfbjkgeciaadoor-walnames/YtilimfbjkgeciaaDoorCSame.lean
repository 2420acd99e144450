/-
  What All answers, as a list of texts; SameTexts of the document's own answer. Conditions: the table is laid; lengths as written.
-/
import Derived.Test.YtilimfbjkgeciaaDoorCAll
namespace Go.Proofs.YtilimfbjkgeciaaDoor
set_option maxRecDepth 100000
open Go.RowKit Go.Shelf

theorem allV_small (l : List UInt8) : ∀ t ∈ allV l, t.length ≤ 65535 := by
  induction h : l.length using Nat.strongRecOn generalizing l with
  | _ n ih =>
    by_cases hg : (getV l).2.2 = 0
    · rw [allV_yes hg]
      obtain ⟨-, h1, h2⟩ := getV_ok hg
      intro t ht
      rcases List.mem_cons.1 ht with rfl | ht
      · exact h2
      · exact ih (l.drop (6 + (getV l).1.length)).length (by simp; omega) _ rfl t ht
    · rw [allV_no hg]; simp
theorem ts_at {l : List (List UInt8)} {i : Nat} {t : List UInt8} (h : l[i]? = some t) : (ts l)[i]? = some (.string (B t)) := by simp [ts, h]

/-- A slice that owns these texts is a slice of them. -/
theorem strs_of_own {w : World} {base : Nat} {v : Value} {l : List (List UInt8)} (h : w.ownsRow base 9 1 v l.length (ts l)) (hl : ∀ t ∈ l, t.length ≤ 1000000) :
    ∃ A cap, v = .slice A l.length cap ∧ Strs w A cap l := by
  have h' := h
  rcases h'.2 with ⟨rfl, hn⟩ | ⟨g, cap, cur, rfl, _, hg, hnc, _, hcs, htake⟩
  · have : l = [] := List.eq_nil_of_length_eq_zero hn
    subst this
    exact ⟨none, 0, rfl, Nat.le_refl _, fun i t ht => by simp at ht⟩
  · refine ⟨_, _, rfl, hnc, fun i t ht => ⟨?_, g, 0, rfl, ?_⟩⟩
    · have := hl t (List.mem_of_getElem? ht); unfold maxLen; omega
    · have := World.ownsRow.cells h (g := g) rfl i _ (ts_at ht)
      rwa [Addr.add_lit] at this

theorem all_any (s : List UInt8) (hs : s.length ≤ 1000000) (w : World) (ht : Tab w) :
    Calls Tryd.prog 29 #[.string (B s)] w fun e w' => ∃ A cap, e = .returned (.tuple #[.slice A (allV s).length cap, .int .i64 (took (allV s) : Nat)]) ∧ Strs w' A cap (allV s) ∧ Old w w' := by
  refine ((callsIn_wide (n := 3)).1 (all_in 3 (by omega) s hs w ht)).mono ?_
  rintro e w' ⟨v, rfl, h, hb⟩
  obtain ⟨A, cap, rfl, hA⟩ := strs_of_own h (fun t ht => by have := allV_small s t ht; omega)
  exact ⟨A, cap, rfl, hA, hb⟩

theorem take_eq_succ {l m : List (List UInt8)} {k : Nat} (h1 : k < l.length) (h2 : k < m.length) : (l.take (k + 1) = m.take (k + 1)) ↔ (l.take k = m.take k ∧ l[k] = m[k]) := by
  rw [List.take_succ_eq_append_getElem h1, List.take_succ_eq_append_getElem h2]
  constructor
  · intro h
    have := List.append_inj h (by simp; omega)
    simpa using this
  · rintro ⟨h3, h4⟩
    rw [h3, h4]

set_option maxRecDepth 10000 in
set_option maxHeartbeats 2000000 in
theorem same_any (l m : List (List UInt8)) (A A' : Option Addr) (c c' : Nat) (hl : l.length ≤ 1000000) (hm : m.length ≤ 1000000) (w : World) (hA : Strs w A c l) (hA' : Strs w A' c' m) :
    Calls Tryd.prog 12 #[.slice A l.length c, .slice A' m.length c'] w fun e w' => e = .returned (.bool (decide (l = m))) ∧ Old w w' := by
  by_cases hlm : l.length = m.length
  · go_enter Tryd.func12, Tryd.ntmps12
    have hb : (((l.length : Nat) : Int) != ((m.length : Nat) : Int)) = false := by simp [hlm]
    go_wp2_with fail
    go_loopw [5] (fun i wr => ∃ k : Nat, k ≤ l.length ∧ i = .int .i64 k ∧ Old w wr ∧ Hid (l.take k = m.take k)) (fun i _ => l.length - (intOf i).toNat)
    case atStart => exact ⟨0, Nat.zero_le _, rfl, Old.re _, Lib.hid rfl⟩
    case round =>
      obtain ⟨k, hk, rfl, hw, HR⟩ := hrel
      by_cases hlt : k < l.length
      · have hlt2 : k < m.length := by omega
        obtain ⟨-, b, off, rfl, hc0⟩ := (hA.old hw).at_ k hlt
        obtain ⟨-, b', off', rfl, hc1⟩ := (hA'.old hw).at_ k hlt2
        have HS := Lib.hid (take_eq_succ hlt hlt2)
        have HN := Lib.hid (show l[k] ≠ m[k] → l ≠ m from fun h e => h (by subst e; rfl))
        generalize l[k] = x at *
        generalize m[k] = y at *
        by_cases hxy : x = y
        · have hbe : (x == y) = true := by simpa using hxy
          have HX := Lib.hid hxy
          clear hxy
          go_wp2_with fail
          go_quiet (fail)
          go_wp2
          go_roundw
          case rel => exact ⟨k + 1, by omega, by go_num, hw.dn _, Lib.hid (HS.out.2 ⟨HR.out, HX.out⟩)⟩
          case measure => simp [intOf]; omega
        · have hbe : (x == y) = false := by simpa using hxy
          go_wp2_with fail
          go_quiet (fail)
          go_wp2
          go_ret
          exact ⟨ret_bool (by simpa using HN.out hxy), hw.dn _⟩
      · have HE := Lib.hid (show l = m by have := HR.out; rwa [List.take_of_length_le (by omega), List.take_of_length_le (by omega)] at this)
        go_wp2
        go_ret
        exact ⟨ret_bool (by simpa using HE.out), hw⟩
  · have hb : (((l.length : Nat) : Int) != ((m.length : Nat) : Int)) = true := by rw [bne_iff_ne]; omega
    have HE := Lib.hid (show ¬ l = m from fun e => hlm (by rw [e]))
    go_enter Tryd.func12, Tryd.ntmps12
    go_wp2
    go_ret
    exact ⟨ret_bool (by simpa using HE.out), Old.re _⟩
end Go.Proofs.YtilimfbjkgeciaaDoor
