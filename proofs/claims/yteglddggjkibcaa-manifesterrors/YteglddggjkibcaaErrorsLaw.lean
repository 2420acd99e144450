/-
  ManifestErrors: what may not be is told by its error, in order, and nothing of the edit is done: the law answers true, whatever comes in, and leaves all as it was. No conditions.
-/
import Derived.Test.YteglddggjkibcaaFRu2
namespace Go.Proofs.Yteglddggjkibcaa
open Go.ChangeShapes Go.WideShapes Go.ChangeAt Go.RowKit Go.Joins Go.Deep

def one : List UInt8 := [111, 110, 101]
def aF : Itm := ⟨1, one, [99], [109], 1⟩
def eA : Ed := ⟨[aF], [], 5, 5⟩
abbrev sA : St := ⟨[aF], 5, 5⟩
def eB (f : Itm) (name : List UInt8) (n m : Nat) : Ed := ⟨[f], [name], n, m⟩
def eC (f : Itm) (n m : Nat) : Ed := ⟨[f], [], n, m⟩
theorem err_a : apF St0 eA = (0, ⟨[aF], 5, 5⟩) := by
  rw [apR_2 (by decide) (by decide) (by decide)]
  show (if crossL [aF] = true then _ else _) = _
  rw [crs_one]
  rfl
theorem good_a : Good sA := ⟨List.pairwise_singleton _ _, by simp [Once, sA], fun x hx => by
  have h : x = aF := by simpa [sA] using hx
  rw [h]; decide, fun h => by
  have := (crossL_iff [aF]).2 h
  rw [crs_one] at this
  cases this⟩
theorem err_1 {f : Itm} {name : List UInt8} {n m : Nat} (h : mayF f = false ∨ n < 5 ∨ m < 5) : apF sA (eB f name n m) = (1, St0) := by
  refine ap_1 ?_
  rcases h with h | h | h
  · exact .inl (by simp [eB, h])
  · exact .inr (.inl (by show ¬ 5 ≤ n; omega))
  · exact .inr (.inr (by show ¬ 5 ≤ m; omega))
theorem err_3 {f : Itm} {name : List UInt8} {n m : Nat} (h1 : mayF f = true) (h2 : 5 ≤ n) (h3 : 5 ≤ m) (h4 : ¬ name = one) : apF sA (eB f name n m) = (3, St0) := by
  rw [apR_2 (by simp [eB, h1]) h2 h3]
  have : rdropF (isort sA.files) (eB f name n m).del = none := by
    show (match findN [aF] name with | none => none | some k => rdropF (([aF] : List Itm).take k ++ ([aF] : List Itm).drop (k + 1)) []) = none
    rw [findN_none.2 (by intro x hx; rw [List.mem_singleton.1 hx]; exact fun e => h4 e.symm)]
  rw [this]
theorem err_0 {f : Itm} {n m : Nat} (h1 : mayF f = true) (h2 : 5 ≤ n) (h3 : 5 ≤ m) : apF sA (eB f one n m) = (0, ⟨[f], n, m⟩) := by
  rw [apR_2 (by simp [eB, h1]) h2 h3]
  show (if crossL [f] = true then _ else _) = _
  rw [crs_one]
  rfl
theorem err_4 {f : Itm} {n m : Nat} (h1 : mayF f = true) (h2 : 5 ≤ n) (h3 : 5 ≤ m) (h4 : f.name = one) : apF sA (eC f n m) = (4, St0) := by
  rw [apR_2 (by simp [eC, h1]) h2 h3]
  have : raddF [aF] (eC f n m).add = none := by
    show (match findN [aF] f.name with | none => _ | some _ => none) = none
    have h5 : findN [aF] f.name = some 0 := by rw [h4]; rfl
    rw [h5]
  show (match raddF [aF] (eC f n m).add with | none => _ | some m => _) = _
  rw [this]
def meets (f : Itm) : Bool := decide (f.lev = 1) && (leT f.low [109] && leT [99] f.high)
theorem crs_two (x y : Itm) : crossL [x, y] = meet y x := by
  rw [Bool.eq_iff_iff, crossL_iff]
  constructor
  · rintro ⟨i, k, a, b, h, h1, h2, h3⟩
    have hi := (List.getElem?_eq_some_iff.1 h1).1
    simp at hi
    obtain rfl : i = 1 := by omega
    obtain rfl : k = 0 := by omega
    simp at h1 h2
    rw [h1, h2]
    exact h3
  · intro h
    exact ⟨1, 0, y, x, by omega, rfl, rfl, h⟩
theorem err_m {f : Itm} {n m : Nat} (h1 : mayF f = true) (h2 : 5 ≤ n) (h3 : 5 ≤ m) (h4 : ¬ f.name = one) : (apF sA (eC f n m)).1 = if meets f = true then 40 else 0 := by
  rw [apR_2 (by simp [eC, h1]) h2 h3]
  have : raddF [aF] (eC f n m).add = some (insI [aF] f) := by
    show (match findN [aF] f.name with | none => raddF (insI [aF] f) [] | some _ => none) = _
    rw [findN_none.2 (by intro x hx; rw [List.mem_singleton.1 hx]; exact fun e => h4 e.symm)]
    rfl
  have hd : rdropF (isort sA.files) (eC f n m).del = some [aF] := rfl
  rw [hd]
  dsimp only
  rw [this]
  dsimp only
  have hc : crossL (insI [aF] f) = meets f := by
    rw [insI]
    split
    · show crossL [aF, f] = _
      rw [crs_two, Bool.eq_iff_iff]
      unfold meet meets
      simp only [Bool.and_eq_true, decide_eq_true_iff]
      show 0 < f.lev ∧ f.lev = 1 ∧ leT f.low [109] = true ∧ leT [99] f.high = true ↔ _
      constructor
      · rintro ⟨-, h⟩; exact h
      · rintro ⟨a, b⟩; exact ⟨by omega, a, b⟩
    · show crossL [f, aF] = _
      rw [crs_two, Bool.eq_iff_iff]
      unfold meet meets
      simp only [Bool.and_eq_true, decide_eq_true_iff]
      show 0 < (1 : Int) ∧ (1 : Int) = f.lev ∧ leT [99] f.high = true ∧ leT f.low [109] = true ↔ _
      constructor
      · rintro ⟨-, a, b, c⟩; exact ⟨a.symm, c, b⟩
      · rintro ⟨a, b, c⟩; exact ⟨by omega, a.symm, c, b⟩
  rw [hc]
  split <;> rfl
theorem one_strs {e : TypeId} {w : World} {g : Nat} {t : List UInt8} (h : Bk w g e #[.string (B t)]) (hl : t.length ≤ maxLen) : Strs w (some ⟨g, 0, none⟩) 1 [t] := by
  refine ⟨Nat.le_refl _, fun i x hx => ?_⟩
  cases i with
  | zero => simp at hx; subst hx; exact ⟨hl, g, 0, rfl, h.cell 0⟩
  | succ i => simp at hx
set_option maxRecDepth 100000 in
set_option maxHeartbeats 16000000 in
theorem law_walk (f : Itm) (name : List UInt8) (n m : Nat) (hn256 : n < 256) (hm256 : m < 256) (hln : name.length ≤ maxLen) (w : World) :
    Calls Try.prog 7 #[iv f, .string (B name), .int .u8 n, .int .u8 m] w fun r w' => r = .returned (.bool true) ∧ Old w w' := by
  have hln2 : name.length ≤ 9223372036854775807 := by unfold maxLen at hln; omega
  clear hln
  go_enter Try.func7, Try.ntmps7
  go_wp2_with fail
  have hb := new_bk1 w (.cells (icells f) 60) 60 (icells f)
  have F1 := (new_bk w 60 (icells f)).alloc (.cells (icells f) 60)
  have O1 := ((Old.re w).al (.cells (icells f) 60)).al (.cells (icells f) 60)
  refine (bounded_any _ _ [f] (one_its hb) (by unfold maxLen; simp)).mono ?_
  rintro r w1 ⟨rfl, hw1⟩
  subst hw1
  generalize (w.alloc (.cells (icells f) 60)).alloc (.cells (icells f) 60) = w1 at *
  obtain ⟨h0, hh⟩ : ∃ h0, h0 = w.heap.size := ⟨_, rfl⟩
  rw [← hh] at F1 ⊢
  clear hh hb
  cases hbF : boundF [f] with
  | false =>
    clear hbF
    go_wp2_with (go_at_call 9; refine (shown_any _).mono ?_; rintro r w9 ⟨rfl, o9⟩)
    go_ret
    exact ⟨rfl, O1.tr o9⟩
  | true =>
    have hfn : f.name.length ≤ 100 := by
      have h1 := hbF
      unfold boundF at h1
      simp only [Bool.and_eq_true, List.all_eq_true] at h1
      have h2 := h1.1 f List.mem_cons_self
      unfold smallI at h2
      simp only [Bool.and_eq_true, decide_eq_true_iff] at h2
      exact h2.1
    clear hbF
    by_cases hnl : name.length ≤ 100
    case neg =>
      go_wp2_with (go_at_call 9; refine (shown_any _).mono ?_; rintro r w9 ⟨rfl, o9⟩)
      go_ret
      exact ⟨rfl, O1.tr o9⟩
    go_wp2_with fail
    refine (shown_any w1).mono ?_
    rintro r w2 ⟨rfl, o2⟩
    have F2 := F1.old o2
    have O2 := O1.tr o2
    clear F1 O1 o2
    go_wp2_with fail
    have hb := new_bk1 w2 (.cells (icells aF) 60) 60 (icells aF)
    have O3 := ((Old.re w2).al (.cells (icells aF) 60)).al (.cells (icells aF) 60)
    refine Calls.mono (apply_any ((w2.alloc (.cells (icells aF) 60)).alloc (.cells (icells aF) 60)) St0 eA good0 (.slice none 0 0) (.slice (some ⟨w2.heap.size + 1, 0, none⟩) 1 1) none 0 (Itms.nil _) (one_its hb) (Strs.none _) (by simp) (by simp [eA]) (by simp [eA]) (by simp) (by simp [eA, aF, one]) (by simp [eA])) ?_
    rw [err_a]
    rintro r w3 ⟨v, rfl, o3, n3⟩
    obtain ⟨A2, c2, rfl, -⟩ : ∃ A c, v = .slice A 1 c ∧ 1 ≤ c := n3.form
    have F3 := Lib.hid ((F2.old (O3.tr o3)).alloc (.cells #[.slice A2 1 c2, .int .u64 5, .int .u64 5] 27))
    have T3 := Lib.hid (new_bk w3 27 #[.slice A2 1 c2, .int .u64 5, .int .u64 5])
    have HV3 := Lib.hid (n3.its.old (old_alloc w3 (.cells #[.slice A2 1 c2, .int .u64 5, .int .u64 5] 27)))
    have O3x := (O2.tr (O3.tr o3)).al (.cells #[.slice A2 1 c2, .int .u64 5, .int .u64 5] 27)
    clear hb O3 o3 n3 F2 O2
    go_upto_region 7 with (fail)
    generalize w3.heap.size = g10 at *
    generalize w3.alloc (.cells #[.slice A2 1 c2, .int .u64 5, .int .u64 5] 27) = w3 at *
    cases hm : mayF f with
    | false =>
      obtain ⟨x0, x1, x2, x3, x4⟩ := F3.out.five
      have t0 : w3.cell? ⟨g10, 0, none⟩ = some (.slice A2 1 c2) := T3.out.cell 0
      have t1 : w3.cell? ⟨g10, 1, none⟩ = some (.int .u64 5) := T3.out.cell 1
      have t2 : w3.cell? ⟨g10, 2, none⟩ = some (.int .u64 5) := T3.out.cell 2
      go_wp2_with fail
      have hb := (new_bk w3 60 (icells f)).alloc (.cells #[.string (B name)] 9)
      have hb2 := new_bk1 w3 (.cells (icells f) 60) 9 #[.string (B name)]
      have O4 := (old_alloc w3 (.cells (icells f) 60)).al (.cells #[.string (B name)] 9)
      refine Calls.mono (apply_any ((w3.alloc (.cells (icells f) 60)).alloc (.cells #[.string (B name)] 9)) sA (eB f name n m) good_a (.slice A2 1 c2) (.slice (some ⟨w3.heap.size, 0, none⟩) 1 1) (some ⟨w3.heap.size + 1, 0, none⟩) 1 (HV3.out.old O4) (one_its hb) (one_strs hb2 (by unfold maxLen; omega)) (by simp [sA]) (by simp [eB]) (by simp [eB]) (by simp [sA, aF, one]) (by simp [eB]; omega) (by simp [eB]; omega)) ?_
      rw [err_1 (.inl hm)]
      rintro r w5 ⟨v5, rfl, o5, n5⟩
      obtain ⟨A5, c5, rfl, -⟩ : ∃ A c, v5 = .slice A 0 c ∧ 0 ≤ c := n5.form
      have O5 := (O4.tr o5).al (.cells #[.slice A5 0 c5, .int .u64 0, .int .u64 0] 27)
      have T5 := new_bk w5 27 #[.slice A5 0 c5, .int .u64 0, .int .u64 0]
      have C := Lib.hid (fun W => may_any f W)
      rw [hm] at C
      clear x0 x1 x2 x3 x4 t0 t1 t2 hb hb2 O4 o5 n5
      go_upto_region 9 with (fail)
      have F6 := F3.out.old O5
      have O6 := O3x.tr O5
      generalize w5.alloc (.cells #[.slice A5 0 c5, .int .u64 0, .int .u64 0] 27) = w6 at *
      generalize w5.heap.size = g12 at *
      obtain ⟨x0, x1, x2, x3, x4⟩ := F6.five
      go_wp2_with fail
      refine (C.out w6).mono ?_
      rintro r w7 ⟨rfl, o7⟩
      have z0 : w7.cell? ⟨g12, 0, none⟩ = some (.slice A5 0 c5) := (T5.old o7).cell 0
      have z1 : w7.cell? ⟨g12, 1, none⟩ = some (.int .u64 0) := (T5.old o7).cell 1
      have z2 : w7.cell? ⟨g12, 2, none⟩ = some (.int .u64 0) := (T5.old o7).cell 2
      clear x0 x1 x2 x3 x4 C
      go_wp2
      go_ret
      exact ⟨rfl, O6.tr o7⟩
    | true =>
      by_cases hn5 : n < 5
      case pos =>
        have d5 : decide ((n : Int) < 5) = true := by simp; omega
        obtain ⟨x0, x1, x2, x3, x4⟩ := F3.out.five
        have t0 : w3.cell? ⟨g10, 0, none⟩ = some (.slice A2 1 c2) := T3.out.cell 0
        have t1 : w3.cell? ⟨g10, 1, none⟩ = some (.int .u64 5) := T3.out.cell 1
        have t2 : w3.cell? ⟨g10, 2, none⟩ = some (.int .u64 5) := T3.out.cell 2
        go_wp2_with fail
        have hb := (new_bk w3 60 (icells f)).alloc (.cells #[.string (B name)] 9)
        have hb2 := new_bk1 w3 (.cells (icells f) 60) 9 #[.string (B name)]
        have O4 := (old_alloc w3 (.cells (icells f) 60)).al (.cells #[.string (B name)] 9)
        refine Calls.mono (apply_any ((w3.alloc (.cells (icells f) 60)).alloc (.cells #[.string (B name)] 9)) sA (eB f name n m) good_a (.slice A2 1 c2) (.slice (some ⟨w3.heap.size, 0, none⟩) 1 1) (some ⟨w3.heap.size + 1, 0, none⟩) 1 (HV3.out.old O4) (one_its hb) (one_strs hb2 (by unfold maxLen; omega)) (by simp [sA]) (by simp [eB]) (by simp [eB]) (by simp [sA, aF, one]) (by simp [eB]; omega) (by simp [eB]; omega)) ?_
        rw [err_1 (.inr (.inl hn5))]
        rintro r w5 ⟨v5, rfl, o5, n5⟩
        obtain ⟨A5, c5, rfl, -⟩ : ∃ A c, v5 = .slice A 0 c ∧ 0 ≤ c := n5.form
        have O5 := (O4.tr o5).al (.cells #[.slice A5 0 c5, .int .u64 0, .int .u64 0] 27)
        have T5 := new_bk w5 27 #[.slice A5 0 c5, .int .u64 0, .int .u64 0]
        have C := Lib.hid (fun W => may_any f W)
        rw [hm] at C
        clear x0 x1 x2 x3 x4 t0 t1 t2 hb hb2 O4 o5 n5
        go_upto_region 9 with (fail)
        have F6 := F3.out.old O5
        have O6 := O3x.tr O5
        generalize w5.alloc (.cells #[.slice A5 0 c5, .int .u64 0, .int .u64 0] 27) = w6 at *
        generalize w5.heap.size = g12 at *
        obtain ⟨x0, x1, x2, x3, x4⟩ := F6.five
        go_wp2_with fail
        refine (C.out w6).mono ?_
        rintro r w7 ⟨rfl, o7⟩
        have z0 : w7.cell? ⟨g12, 0, none⟩ = some (.slice A5 0 c5) := (T5.old o7).cell 0
        have z1 : w7.cell? ⟨g12, 1, none⟩ = some (.int .u64 0) := (T5.old o7).cell 1
        have z2 : w7.cell? ⟨g12, 2, none⟩ = some (.int .u64 0) := (T5.old o7).cell 2
        clear x0 x1 x2 x3 x4 C
        go_wp2
        go_ret
        exact ⟨rfl, O6.tr o7⟩
      have d5 : decide ((n : Int) < 5) = false := by simp; omega
      by_cases hm5 : m < 5
      case pos =>
        have d6 : decide ((m : Int) < 5) = true := by simp; omega
        obtain ⟨x0, x1, x2, x3, x4⟩ := F3.out.five
        have t0 : w3.cell? ⟨g10, 0, none⟩ = some (.slice A2 1 c2) := T3.out.cell 0
        have t1 : w3.cell? ⟨g10, 1, none⟩ = some (.int .u64 5) := T3.out.cell 1
        have t2 : w3.cell? ⟨g10, 2, none⟩ = some (.int .u64 5) := T3.out.cell 2
        go_wp2_with fail
        have hb := (new_bk w3 60 (icells f)).alloc (.cells #[.string (B name)] 9)
        have hb2 := new_bk1 w3 (.cells (icells f) 60) 9 #[.string (B name)]
        have O4 := (old_alloc w3 (.cells (icells f) 60)).al (.cells #[.string (B name)] 9)
        refine Calls.mono (apply_any ((w3.alloc (.cells (icells f) 60)).alloc (.cells #[.string (B name)] 9)) sA (eB f name n m) good_a (.slice A2 1 c2) (.slice (some ⟨w3.heap.size, 0, none⟩) 1 1) (some ⟨w3.heap.size + 1, 0, none⟩) 1 (HV3.out.old O4) (one_its hb) (one_strs hb2 (by unfold maxLen; omega)) (by simp [sA]) (by simp [eB]) (by simp [eB]) (by simp [sA, aF, one]) (by simp [eB]; omega) (by simp [eB]; omega)) ?_
        rw [err_1 (.inr (.inr hm5))]
        rintro r w5 ⟨v5, rfl, o5, n5⟩
        obtain ⟨A5, c5, rfl, -⟩ : ∃ A c, v5 = .slice A 0 c ∧ 0 ≤ c := n5.form
        have O5 := (O4.tr o5).al (.cells #[.slice A5 0 c5, .int .u64 0, .int .u64 0] 27)
        have T5 := new_bk w5 27 #[.slice A5 0 c5, .int .u64 0, .int .u64 0]
        have C := Lib.hid (fun W => may_any f W)
        rw [hm] at C
        clear x0 x1 x2 x3 x4 t0 t1 t2 hb hb2 O4 o5 n5
        go_upto_region 9 with (fail)
        have F6 := F3.out.old O5
        have O6 := O3x.tr O5
        generalize w5.alloc (.cells #[.slice A5 0 c5, .int .u64 0, .int .u64 0] 27) = w6 at *
        generalize w5.heap.size = g12 at *
        obtain ⟨x0, x1, x2, x3, x4⟩ := F6.five
        go_wp2_with fail
        refine (C.out w6).mono ?_
        rintro r w7 ⟨rfl, o7⟩
        have z0 : w7.cell? ⟨g12, 0, none⟩ = some (.slice A5 0 c5) := (T5.old o7).cell 0
        have z1 : w7.cell? ⟨g12, 1, none⟩ = some (.int .u64 0) := (T5.old o7).cell 1
        have z2 : w7.cell? ⟨g12, 2, none⟩ = some (.int .u64 0) := (T5.old o7).cell 2
        clear x0 x1 x2 x3 x4 C
        go_wp2
        go_ret
        exact ⟨rfl, O6.tr o7⟩
      have d6 : decide ((m : Int) < 5) = false := by simp; omega
      by_cases hone : name = one
      case neg =>
        have d7 : (name == [111, 110, 101]) = false := by simpa [one] using hone
        obtain ⟨x0, x1, x2, x3, x4⟩ := F3.out.five
        have t0 : w3.cell? ⟨g10, 0, none⟩ = some (.slice A2 1 c2) := T3.out.cell 0
        have t1 : w3.cell? ⟨g10, 1, none⟩ = some (.int .u64 5) := T3.out.cell 1
        have t2 : w3.cell? ⟨g10, 2, none⟩ = some (.int .u64 5) := T3.out.cell 2
        go_wp2_with fail
        have hb := (new_bk w3 60 (icells f)).alloc (.cells #[.string (B name)] 9)
        have hb2 := new_bk1 w3 (.cells (icells f) 60) 9 #[.string (B name)]
        have O4 := (old_alloc w3 (.cells (icells f) 60)).al (.cells #[.string (B name)] 9)
        refine Calls.mono (apply_any ((w3.alloc (.cells (icells f) 60)).alloc (.cells #[.string (B name)] 9)) sA (eB f name n m) good_a (.slice A2 1 c2) (.slice (some ⟨w3.heap.size, 0, none⟩) 1 1) (some ⟨w3.heap.size + 1, 0, none⟩) 1 (HV3.out.old O4) (one_its hb) (one_strs hb2 (by unfold maxLen; omega)) (by simp [sA]) (by simp [eB]) (by simp [eB]) (by simp [sA, aF, one]) (by simp [eB]; omega) (by simp [eB]; omega)) ?_
        rw [err_3 hm (by omega) (by omega) hone]
        rintro r w5 ⟨v5, rfl, o5, n5⟩
        obtain ⟨A5, c5, rfl, -⟩ : ∃ A c, v5 = .slice A 0 c ∧ 0 ≤ c := n5.form
        have O5 := (O4.tr o5).al (.cells #[.slice A5 0 c5, .int .u64 0, .int .u64 0] 27)
        have T5 := new_bk w5 27 #[.slice A5 0 c5, .int .u64 0, .int .u64 0]
        have C := Lib.hid (fun W => may_any f W)
        rw [hm] at C
        clear x0 x1 x2 x3 x4 t0 t1 t2 hb hb2 O4 o5 n5
        go_upto_region 9 with (fail)
        have F6 := F3.out.old O5
        have O6 := O3x.tr O5
        generalize w5.alloc (.cells #[.slice A5 0 c5, .int .u64 0, .int .u64 0] 27) = w6 at *
        generalize w5.heap.size = g12 at *
        obtain ⟨x0, x1, x2, x3, x4⟩ := F6.five
        go_wp2_with fail
        refine (C.out w6).mono ?_
        rintro r w7 ⟨rfl, o7⟩
        have z0 : w7.cell? ⟨g12, 0, none⟩ = some (.slice A5 0 c5) := (T5.old o7).cell 0
        have z1 : w7.cell? ⟨g12, 1, none⟩ = some (.int .u64 0) := (T5.old o7).cell 1
        have z2 : w7.cell? ⟨g12, 2, none⟩ = some (.int .u64 0) := (T5.old o7).cell 2
        clear x0 x1 x2 x3 x4 C
        go_wp2
        go_ret
        exact ⟨rfl, O6.tr o7⟩
      have d7 : (name == [111, 110, 101]) = true := by simpa [one] using hone
      have HMM := Lib.hid (And.intro hm (And.intro (show 5 ≤ n by omega) (show 5 ≤ m by omega)))
      have HON := Lib.hid hone
      clear hm hn5 hm5 hone
      obtain ⟨x0, x1, x2, x3, x4⟩ := F3.out.five
      have t0 : w3.cell? ⟨g10, 0, none⟩ = some (.slice A2 1 c2) := T3.out.cell 0
      have t1 : w3.cell? ⟨g10, 1, none⟩ = some (.int .u64 5) := T3.out.cell 1
      have t2 : w3.cell? ⟨g10, 2, none⟩ = some (.int .u64 5) := T3.out.cell 2
      go_wp2_with fail
      have hb := (new_bk w3 60 (icells f)).alloc (.cells #[.string (B name)] 9)
      have hb2 := new_bk1 w3 (.cells (icells f) 60) 9 #[.string (B name)]
      have O4 := (old_alloc w3 (.cells (icells f) 60)).al (.cells #[.string (B name)] 9)
      refine Calls.mono (apply_any ((w3.alloc (.cells (icells f) 60)).alloc (.cells #[.string (B name)] 9)) sA (eB f name n m) good_a (.slice A2 1 c2) (.slice (some ⟨w3.heap.size, 0, none⟩) 1 1) (some ⟨w3.heap.size + 1, 0, none⟩) 1 (HV3.out.old O4) (one_its hb) (one_strs hb2 (by unfold maxLen; omega)) (by simp [sA]) (by simp [eB]) (by simp [eB]) (by simp [sA, aF, one]) (by simp [eB]; omega) (by simp [eB]; omega)) ?_
      rw [show eB f name n m = eB f one n m by rw [HON.out], err_0 HMM.out.1 HMM.out.2.1 HMM.out.2.2]
      rintro r w5 ⟨v5, rfl, o5, n5⟩
      obtain ⟨A5, c5, rfl, -⟩ : ∃ A c, v5 = .slice A 1 c ∧ 1 ≤ c := n5.form
      have O5 := (O4.tr o5).al (.cells #[.slice A5 1 c5, .int .u64 (n : Int), .int .u64 (m : Int)] 27)
      have T5 := new_bk w5 27 #[.slice A5 1 c5, .int .u64 (n : Int), .int .u64 (m : Int)]
      have HW5 := Lib.hid (n5.its.old (old_alloc w5 (.cells #[.slice A5 1 c5, .int .u64 (n : Int), .int .u64 (m : Int)] 27)))
      have C := Lib.hid (fun W => may_any f W)
      rw [HMM.out.1] at C
      clear x0 x1 x2 x3 x4 t0 t1 t2 hb hb2 O4 o5 n5
      go_upto_region 9 with (fail)
      have F6 := F3.out.old O5
      have O6 := O3x.tr O5
      have T6 := T3.out.old O5
      have HV6 := HV3.out.old O5
      generalize w5.alloc (.cells #[.slice A5 1 c5, .int .u64 (n : Int), .int .u64 (m : Int)] 27) = w6 at *
      generalize w5.heap.size = g12 at *
      obtain ⟨x0, x1, x2, x3, x4⟩ := F6.five
      go_wp2_with fail
      refine (C.out w6).mono ?_
      rintro r w7 ⟨rfl, o7⟩
      have F7 := Lib.hid (F6.old o7)
      have T7 := Lib.hid (T6.old o7)
      have HV7 := Lib.hid (HV6.old o7)
      have TT7 := Lib.hid (T5.old o7)
      have HW7 := Lib.hid (HW5.out.old o7)
      have O7 := O6.tr o7
      clear x0 x1 x2 x3 x4 C F6 T6 HV6 T5 HW5 O6 o7 O5 F3 T3 HV3 O3x
      obtain ⟨x0, x1, x2, x3, x4⟩ := F7.out.five
      have t0 : w7.cell? ⟨g10, 0, none⟩ = some (.slice A2 1 c2) := T7.out.cell 0
      have t1 : w7.cell? ⟨g10, 1, none⟩ = some (.int .u64 5) := T7.out.cell 1
      have t2 : w7.cell? ⟨g10, 2, none⟩ = some (.int .u64 5) := T7.out.cell 2
      go_wp2_with fail
      have hb := new_bk w7 60 (icells f)
      have O4 := old_alloc w7 (.cells (icells f) 60)
      refine Calls.mono (apply_any (w7.alloc (.cells (icells f) 60)) sA (eC f n m) good_a (.slice A2 1 c2) (.slice (some ⟨w7.heap.size, 0, none⟩) 1 1) none 0 (HV7.out.old O4) (one_its hb) (Strs.none _) (by simp [sA]) (by simp [eC]) (by simp [eC]) (by simp [sA, aF, one]) (by simp [eC]; omega) (by simp [eC])) ?_
      obtain ⟨r3, hr3⟩ : ∃ r3, r3 = apF sA (eC f n m) := ⟨_, rfl⟩
      rw [← hr3]
      have HR3 := Lib.hid hr3
      clear hr3
      rintro r w8 ⟨v8, rfl, o8, n8⟩
      obtain ⟨A8, c8, rfl, -⟩ := n8.form
      have O8 := (O4.tr o8).al (.cells #[.slice A8 r3.2.files.length c8, .int .u64 (r3.2.next : Int), .int .u64 (r3.2.fl : Int)] 27)
      clear x0 x1 x2 x3 x4 t0 t1 t2 hb O4 o8 n8
      go_upto_region 18 with (fail)
      have F9 := F7.out.old O8
      have O9 := O7.tr O8
      have TT9 := TT7.out.old O8
      have HW9 := HW7.out.old O8
      generalize w8.alloc (.cells #[.slice A8 r3.2.files.length c8, .int .u64 (r3.2.next : Int), .int .u64 (r3.2.fl : Int)] 27) = w9 at *
      obtain ⟨x0, x1, x2, x3, x4⟩ := F9.five
      have z0 : w9.cell? ⟨g12, 0, none⟩ = some (.slice A5 1 c5) := TT9.cell 0
      have HXX := Lib.hid HW9
      have HE := Lib.hid (fun W => eqlFile f W)
      clear F9 TT9 HW9 F7 T7 HV7 TT7 HW7 O7 O8
      by_cases hfo : f.name = one
      case pos =>
        have d8 : (f.name == [111, 110, 101]) = true := by simpa [one] using hfo
        have HFN := Lib.hid hfo
        clear hfo
        cases b1 : (f.lev == 1) with
        | false =>
          have hcode : r3.1 = 4 := by rw [HR3.out, err_4 HMM.out.1 HMM.out.2.1 HMM.out.2.2 HFN.out]
          rw [hcode]
          clear hcode
          go_wp2
          go_ret
          exact ⟨rfl, O9⟩
        | true =>
          cases b2 : (Op.bytesLess f.low [109] || f.low == [109]) with
          | false =>
            have hcode : r3.1 = 4 := by rw [HR3.out, err_4 HMM.out.1 HMM.out.2.1 HMM.out.2.2 HFN.out]
            rw [hcode]
            clear hcode
            go_wp2
            go_ret
            exact ⟨rfl, O9⟩
          | true =>
            cases b3 : Op.bytesLess f.high [99] with
            | false =>
              have hcode : r3.1 = 4 := by rw [HR3.out, err_4 HMM.out.1 HMM.out.2.1 HMM.out.2.2 HFN.out]
              rw [hcode]
              clear hcode
              go_wp2
              go_ret
              exact ⟨rfl, O9⟩
            | true =>
              have hcode : r3.1 = 4 := by rw [HR3.out, err_4 HMM.out.1 HMM.out.2.1 HMM.out.2.2 HFN.out]
              rw [hcode]
              clear hcode
              go_wp2
              go_ret
              exact ⟨rfl, O9⟩
      have d8 : (f.name == [111, 110, 101]) = false := by simpa [one] using hfo
      have HFN := Lib.hid hfo
      clear hfo
      cases b1 : (f.lev == 1) with
      | false =>
        have hcode : r3.1 = 0 := by
          rw [HR3.out, err_m HMM.out.1 HMM.out.2.1 HMM.out.2.2 HFN.out]
          have hmt : meets f = false := by
            unfold meets
            have q1 : decide (f.lev = 1) = false := by simpa using b1
            rw [q1]; rfl
          rw [hmt]; rfl
        rw [hcode]
        clear hcode
        obtain ⟨b5, off5, rfl, hx5⟩ := HXX.out.at_ (i := 0) (x := f) rfl
        obtain ⟨y0, y1, y2, y3, y4⟩ := hx5.held
        simp only [Nat.zero_mul, Nat.add_zero] at y0 y1 y2 y3 y4
        clear hx5
        go_upto_region 23 with (fail)
        have he := HE.out
        go_quiet (fail)
        have O10 := O9.dn nq
        clear he
        go_wp2
        go_ret
        exact ⟨rfl, O10⟩
      | true =>
        cases b2 : (Op.bytesLess f.low [109] || f.low == [109]) with
        | false =>
          have hcode : r3.1 = 0 := by
            rw [HR3.out, err_m HMM.out.1 HMM.out.2.1 HMM.out.2.2 HFN.out]
            have hmt : meets f = false := by
              unfold meets
              have q2 : leT f.low [109] = false := b2
              rw [q2]; simp
            rw [hmt]; rfl
          rw [hcode]
          clear hcode
          obtain ⟨b5, off5, rfl, hx5⟩ := HXX.out.at_ (i := 0) (x := f) rfl
          obtain ⟨y0, y1, y2, y3, y4⟩ := hx5.held
          simp only [Nat.zero_mul, Nat.add_zero] at y0 y1 y2 y3 y4
          clear hx5
          go_upto_region 23 with (fail)
          have he := HE.out
          go_quiet (fail)
          have O10 := O9.dn nq
          clear he
          go_wp2
          go_ret
          exact ⟨rfl, O10⟩
        | true =>
          cases b3 : Op.bytesLess f.high [99] with
          | false =>
            have hcode : r3.1 = 40 := by
              rw [HR3.out, err_m HMM.out.1 HMM.out.2.1 HMM.out.2.2 HFN.out]
              have hmt : meets f = true := by
                unfold meets
                have q1 : decide (f.lev = 1) = true := by simpa using b1
                have q2 : leT f.low [109] = true := b2
                rw [q1, q2, not_less, b3]; rfl
              rw [hmt]; rfl
            rw [hcode]
            clear hcode
            go_wp2
            go_ret
            exact ⟨rfl, O9⟩
          | true =>
            have hcode : r3.1 = 0 := by
              rw [HR3.out, err_m HMM.out.1 HMM.out.2.1 HMM.out.2.2 HFN.out]
              have hmt : meets f = false := by
                unfold meets
                have q1 : decide (f.lev = 1) = true := by simpa using b1
                have q2 : leT f.low [109] = true := b2
                rw [q1, q2, not_less, b3]; rfl
              rw [hmt]; rfl
            rw [hcode]
            clear hcode
            obtain ⟨b5, off5, rfl, hx5⟩ := HXX.out.at_ (i := 0) (x := f) rfl
            obtain ⟨y0, y1, y2, y3, y4⟩ := hx5.held
            simp only [Nat.zero_mul, Nat.add_zero] at y0 y1 y2 y3 y4
            clear hx5
            go_upto_region 23 with (fail)
            have he := HE.out
            go_quiet (fail)
            have O10 := O9.dn nq
            clear he
            go_wp2
            go_ret
            exact ⟨rfl, O10⟩

set_option maxRecDepth 100000 in
theorem manifestErrors_lifted (os : Os) (started : os.Started) (H : Type) (enc : TypeId × Value → H) :
    ReturnsInHanded {} Try.checked os 7 .any (Rows.manifestErrorsSpec.pre6 enc Try.prog Try.f7 Rows.manifestErrorsRow.domain false) (Rows.manifestErrorsSpec.post enc Try.prog Try.f7 false true false false) := by
  refine returnsInHanded_of_change_sized (C := Try.checked) Try.own started (by kernel_rfl) Try.func7
    (ChangeSpec.witness6 (enc := enc) (C := Try.checked) false ⟨#[], #[.agg zeroItem, .string ByteArray.empty, .int .u8 0, .int .u8 0], []⟩ 8 (by kernel_rfl) (by kernel_rfl) (by kernel_rfl) (by kernel_rfl)) ?_
  intro W base args ds gs before hval0 hW hcnd hsz0 _
  have hval : ∀ (j : Nat) t v, Try.f7.params[j]? = some t → args[j]? = some v → Value.okWide Try.prog W .any base t v := hval0
  have hW' := hW
  obtain ⟨p, q, hA0, hV, rfl, hfz, hnd⟩ := hW
  have hA : DataW.TrodAll enc Try.prog W 0 (fun _ => true) true Try.f7.params.toList args.toList ds p := hA0
  have hsz : (DataW.weightsEach Try.prog (Try.f7.params.toList ++ Rows.manifestErrorsSpec.plain.varTypes Try.prog) (ds ++ gs)).all (· ≤ reachBytes) = true := hsz0
  rw [Try.params7] at hA hval hsz
  obtain ⟨v0, v1, v2, v3, d0, d1, d2, d3, p0, p1, p2, p3, rfl, rfl, rfl, h0, h1, h2, h3⟩ := trodAll_four' hA
  obtain ⟨rfl, rfl⟩ := trodVars_none hV
  have hlt : ∀ x ∈ p0 ++ (p1 ++ (p2 ++ (p3))), x.block < W.heap.size := fun x hx => hW'.lt x (by simpa using hx)
  have k0 := h0
  have k1 := h1
  have k2 := h2
  have k3 := h3
  obtain ⟨a0, rfl⟩ := open_file (hval 0 60 v0 rfl rfl) h0
  obtain ⟨a1, rfl, o1⟩ := open_str (hval 1 9 v1 rfl rfl) h1
  obtain ⟨a2, rfl, o2⟩ := open_u8 (hval 2 5 v2 rfl rfl) h2
  obtain ⟨a3, rfl, o3⟩ := open_u8 (hval 3 5 v3 rfl rfl) h3
  clear hA0 hval0 hsz0
  refine (law_walk a0 a1 a2 a3 o2 o3 o1 W).mono fun e W' ⟨he, hb⟩ => ?_
  subst he
  refine ⟨_, rfl, _, _, _, [], p0 ++ (p1 ++ (p2 ++ (p3))), [], hW', trodAll_mk1 (shut_bool Try.underlying4 _), ?_, rfl, hb.frame _, fun h => by cases h⟩
  have r0 := Below.trod Try.laidOut (by kernel_rfl) (of_decide_eq_true (by kernel_rfl)) k0 hb (fun x hx => hlt x (by simp [hx]))
  have r1 := Below.trod Try.laidOut (by kernel_rfl) (of_decide_eq_true (by kernel_rfl)) k1 hb (fun x hx => hlt x (by simp [hx]))
  have r2 := Below.trod Try.laidOut (by kernel_rfl) (of_decide_eq_true (by kernel_rfl)) k2 hb (fun x hx => hlt x (by simp [hx]))
  have r3 := Below.trod Try.laidOut (by kernel_rfl) (of_decide_eq_true (by kernel_rfl)) k3 hb (fun x hx => hlt x (by simp [hx]))
  exact trodAll_mk4 r0 r1 r2 r3

theorem manifestErrors_holds : Rows.ManifestErrorsSaid :=
  OpenClaim.holds_of_wide 7 Try.f7 rfl rfl rfl rfl rfl rfl rfl ⟨rfl, rfl, rfl, rfl, rfl⟩ rfl rfl rfl rfl rfl (by kernel_rfl) Try.func7 (by kernel_rfl)
    (of_decide_eq_true (by kernel_rfl)) (by unfold Func.isWrapper; first | (rw [if_pos (by decide +kernel)]; kernel_rfl) | (rw [if_neg (by decide +kernel)]; exact ⟨rfl, rfl⟩))
    (fun os started H enc _ => manifestErrors_lifted os started H enc)
#print axioms manifestErrors_holds
end Go.Proofs.Yteglddggjkibcaa
