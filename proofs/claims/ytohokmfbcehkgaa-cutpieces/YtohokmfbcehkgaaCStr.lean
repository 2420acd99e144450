/-
  Texts that came in: the law's bound, Borders of the code and of the reference, Place of the reference, a search with a closure. Conditions: lengths as written.
-/
import Derived.Test.YtohokmfbcehkgaaCRise
import Derived.Laws.Cover1
namespace Go.Proofs.Ytohokmfbcehkgaa
open Go.RowKit

/-- A slice at A of these texts. -/
def Strs (w : World) (A : Option Addr) (cap : Nat) (l : List (List UInt8)) : Prop :=
  l.length ≤ cap ∧ ∀ (i : Nat) (t : List UInt8), l[i]? = some t → t.length ≤ maxLen ∧ ∃ b off, A = some ⟨b, off, none⟩ ∧ w.cell? ⟨b, off + i, none⟩ = some (.string (B t))
theorem Strs.at_ {w : World} {A : Option Addr} {cap : Nat} {l : List (List UInt8)} (h : Strs w A cap l) (i : Nat) (hi : i < l.length) : l[i].length ≤ maxLen ∧ ∃ b off, A = some ⟨b, off, none⟩ ∧ w.cell? ⟨b, off + i, none⟩ = some (.string (B l[i])) := h.2 i _ (List.getElem?_eq_getElem hi)
theorem Strs.old {w W : World} {A : Option Addr} {cap : Nat} {l : List (List UInt8)} (h : Strs w A cap l) (k : Old w W) : Strs W A cap l := by
  refine ⟨h.1, fun i t ht => ?_⟩
  obtain ⟨h1, b, off, rfl, h2⟩ := h.2 i t ht
  exact ⟨h1, b, off, rfl, cell_old h2 k⟩
theorem Strs.none (w : World) : Strs w none 0 [] := ⟨Nat.le_refl _, fun i t ht => by simp at ht⟩

/-- The one text stands at the other, or ahead of it. -/
def leT (s t : List UInt8) : Bool := Op.bytesLess s t || s == t
theorem leT_iff (s t : List UInt8) : leT s t = true ↔ cmpT s t ≤ 0 := by
  unfold leT cmpT
  by_cases h : Op.bytesLess s t = true
  · simp [h]
  · by_cases h2 : s = t
    · subst h2; simp [h]
    · simp [h, h2]
theorem lt_iff (s t : List UInt8) : Op.bytesLess s t = true ↔ cmpT s t = -1 := by
  unfold cmpT
  by_cases h : Op.bytesLess s t = true
  · simp [h]
  · by_cases h2 : s = t
    · subst h2; simp [h]
    · simp [h, h2]
theorem leT_trans {s t u : List UInt8} (h1 : leT s t = true) (h2 : leT t u = true) : leT s u = true := by
  rw [leT_iff] at *
  rcases cmpT_vals s t with a | a | a
  · rcases cmpT_vals t u with b | b | b
    · rw [cmpT_trans s t u a b]; omega
    · rw [← cmpT_zero t u b, a]; omega
    · omega
  · rw [cmpT_zero s t a]; exact h2
  · omega
/-- How many of these are at most that one. -/
def place (bs : List (List UInt8)) (r : List UInt8) : Nat := bs.countP fun b => leT b r
theorem place_le (bs : List (List UInt8)) (r : List UInt8) : place bs r ≤ bs.length := List.countP_le_length
theorem place_split {bs : List (List UInt8)} {r : List UInt8} {n : Nat} (hn : n ≤ bs.length) (h1 : ∀ (i : Nat) (b : List UInt8), i < n → bs[i]? = some b → leT b r = true) (h2 : ∀ (i : Nat) (b : List UInt8), n ≤ i → bs[i]? = some b → leT b r = false) : place bs r = n := by
  unfold place
  rw [← List.take_append_drop n bs, List.countP_append]
  have e1 : (bs.take n).countP (fun b => leT b r) = (bs.take n).length := by
    rw [List.countP_eq_length]
    intro b hb
    obtain ⟨i, hi, rfl⟩ := List.getElem_of_mem hb
    have hi2 : i < n := by simp at hi; omega
    refine h1 i _ hi2 ?_
    rw [List.getElem_take]
    exact List.getElem?_eq_getElem _
  have e2 : (bs.drop n).countP (fun b => leT b r) = 0 := by
    rw [List.countP_eq_zero]
    intro b hb
    obtain ⟨i, hi, rfl⟩ := List.getElem_of_mem hb
    rw [h2 (n + i) _ (by omega) (by rw [List.getElem_drop]; exact List.getElem?_eq_getElem _)]
    simp
  rw [e1, e2, List.length_take]
  omega

/-- The law's bound. -/
def smallC (c : Cel) : Bool := decide (c.row.length ≤ 100) && decide (c.col.length ≤ 100) && decide (c.val.length ≤ 200)
def boundedB (l : List Cel) (bs : List (List UInt8)) : Bool := l.all smallC && bs.all (fun t => decide (t.length ≤ 100)) && (decide (l.length ≤ 80) && decide (bs.length ≤ 40))
theorem bounded_no {l : List Cel} {k : Nat} {c : Cel} (bs : List (List UInt8)) (hc : l[k]? = some c) (h : 100 < c.row.length ∨ 100 < c.col.length ∨ 200 < c.val.length) : boundedB l bs = false := by
  have hm := List.mem_of_getElem? hc
  have : l.all smallC = false := by
    rw [List.all_eq_false]
    refine ⟨c, hm, ?_⟩
    simp [smallC]
    omega
  simp [boundedB, this]
theorem bounded_no2 {bs : List (List UInt8)} {k : Nat} {t : List UInt8} (l : List Cel) (hc : bs[k]? = some t) (h : 100 < t.length) : boundedB l bs = false := by
  have hm := List.mem_of_getElem? hc
  have : bs.all (fun t => decide (t.length ≤ 100)) = false := by
    rw [List.all_eq_false]
    refine ⟨t, hm, ?_⟩
    simp
    omega
  simp [boundedB, this]
theorem bounded_yes {l : List Cel} {bs : List (List UInt8)} (h : ∀ c ∈ l, smallC c = true) (h2 : ∀ t ∈ bs, t.length ≤ 100) : boundedB l bs = (decide (l.length ≤ 80) && decide (bs.length ≤ 40)) := by
  unfold boundedB
  rw [List.all_eq_true.2 h, List.all_eq_true.2 fun c hc => by simp [h2 c hc]]
  simp
theorem bounded_len {l : List Cel} {bs : List (List UInt8)} (h : boundedB l bs = true) : l.length ≤ 80 ∧ bs.length ≤ 40 := by
  unfold boundedB at h
  simp at h
  exact h.2
theorem take_at {α : Type} {l : List α} {i : Nat} {c : α} (h : l[i]? = some c) : l.take i ++ [c] = l.take (i + 1) := by
  obtain ⟨h2, h3⟩ := List.getElem?_eq_some_iff.1 h
  rw [List.take_succ_eq_append_getElem h2, h3]

set_option maxHeartbeats 4000000 in
theorem bounded_any (w : World) (v : Value) (l : List Cel) (h : Cels w v l) (hl : l.length ≤ maxLen) (A2 : Option Addr) (cap2 : Nat) (bs : List (List UInt8)) (hS : Strs w A2 cap2 bs) (hcap : cap2 ≤ maxLen) :
    Calls Try.prog 9 #[v, .slice A2 bs.length cap2] w fun e w' => e = .returned (.bool (boundedB l bs)) ∧ w' = w := by
  obtain ⟨A, cap, rfl, hc⟩ := h.form
  have hm : l.length ≤ 9223372036854775807 := by unfold maxLen at hl; omega
  have hm2 : bs.length ≤ 9223372036854775807 := by have := hS.1; unfold maxLen at hcap; omega
  have HI := Lib.hid h
  have HS := Lib.hid hS
  clear h hl hS hcap
  go_enter Try.func9, Try.ntmps9
  go_wp2_with fail
  go_loop [5] (fun iv => ∃ k : Nat, iv = .int .i64 k ∧ k ≤ l.length ∧ Hid (∀ c ∈ l.take k, smallC c = true)) (fun iv => l.length - (intOf iv).toNat)
  case atStart => exact ⟨0, rfl, Nat.zero_le _, Lib.hid (by simp)⟩
  case round =>
    obtain ⟨k, rfl, hk, HB⟩ := hrel
    by_cases hlt : k < l.length
    · obtain ⟨c, HX⟩ : ∃ c, Hid (l[k]? = some c) := ⟨l[k], Lib.hid (List.getElem?_eq_getElem hlt)⟩
      obtain ⟨b, off, rfl, hx⟩ := HI.out.at_ HX.out
      obtain ⟨x0, x1, x2, x3, x4, x5⟩ := hx.held
      have HNo := Lib.hid fun h => bounded_no bs HX.out h
      have HYes := Lib.hid (show (c.row.length ≤ 100 ∧ c.col.length ≤ 100 ∧ c.val.length ≤ 200) → ∀ c ∈ l.take (k + 1), smallC c = true from fun h c' hc' => by
        rw [← take_at HX.out] at hc'
        rcases List.mem_append.1 hc' with hc' | hc'
        · exact HB.out c' hc'
        · rw [List.mem_singleton.1 hc']; simp [smallC]; omega)
      clear HX hx
      by_cases h1 : c.row.length ≤ 100
      · by_cases h2 : c.col.length ≤ 100
        · by_cases h3 : c.val.length ≤ 200
          · go_wp2
            go_round
            case rel => exact ⟨k + 1, by go_num, by omega, Lib.hid (HYes.out ⟨h1, h2, h3⟩)⟩
            case measure => simp [intOf]; omega
          · go_wp2
            go_ret
            exact ⟨ret_bool (by rw [HNo.out (by omega)]), rfl⟩
        · go_wp2
          go_ret
          exact ⟨ret_bool (by rw [HNo.out (by omega)]), rfl⟩
      · go_wp2
        go_ret
        exact ⟨ret_bool (by rw [HNo.out (by omega)]), rfl⟩
    · obtain rfl : k = l.length := by omega
      have HC := Lib.hid (show ∀ c ∈ l, smallC c = true by have := HB.out; rwa [List.take_length] at this)
      clear HB
      go_wp2_with fail
      go_loop [6] (fun iv => ∃ k : Nat, iv = .int .i64 k ∧ k ≤ bs.length ∧ Hid (∀ t ∈ bs.take k, t.length ≤ 100)) (fun iv => bs.length - (intOf iv).toNat)
      case atStart => exact ⟨0, rfl, Nat.zero_le _, Lib.hid (by simp)⟩
      case round =>
        obtain ⟨k, rfl, hk, HB⟩ := hrel
        by_cases hlt : k < bs.length
        · obtain ⟨t, HX⟩ : ∃ t, Hid (bs[k]? = some t) := ⟨bs[k], Lib.hid (List.getElem?_eq_getElem hlt)⟩
          obtain ⟨hln, b, off, rfl, hx⟩ := HS.out.2 k t HX.out
          have HNo := Lib.hid fun h => bounded_no2 l HX.out h
          have HYes := Lib.hid (show t.length ≤ 100 → ∀ c ∈ bs.take (k + 1), c.length ≤ 100 from fun h c' hc' => by
            rw [← take_at HX.out] at hc'
            rcases List.mem_append.1 hc' with hc' | hc'
            · exact HB.out c' hc'
            · rw [List.mem_singleton.1 hc']; exact h)
          clear HX hln
          by_cases h1 : t.length ≤ 100
          · go_wp2
            go_round
            case rel => exact ⟨k + 1, by go_num, by omega, Lib.hid (HYes.out h1)⟩
            case measure => simp [intOf]; omega
          · go_wp2
            go_ret
            exact ⟨ret_bool (by rw [HNo.out (by omega)]), rfl⟩
        · obtain rfl : k = bs.length := by omega
          have HE := Lib.hid (bounded_yes HC.out (by have := HB.out; rwa [List.take_length] at this))
          clear HB HC
          by_cases g1 : l.length ≤ 80
          · go_wp2
            go_ret
            refine ⟨ret_bool ?_, rfl⟩
            rw [HE.out]
            simp [g1]
            try omega
          · go_wp2
            go_ret
            refine ⟨ret_bool ?_, rfl⟩
            rw [HE.out]
            simp [g1]

/-- Whether the border at i is well. -/
def goodAt (bs : List (List UInt8)) (i : Nat) : Bool := decide (1 ≤ (bs[i]?.getD []).length) && decide ((bs[i]?.getD []).length ≤ 40) && (i == 0 || Op.bytesLess (bs[i - 1]?.getD []) (bs[i]?.getD []))
/-- Borders. -/
def bords (bs : List (List UInt8)) : Bool := (List.range bs.length).all (goodAt bs)
theorem bords_yes {bs : List (List UInt8)} (h : ∀ i, i < bs.length → goodAt bs i = true) : bords bs = true := by
  unfold bords
  rw [List.all_eq_true]
  intro i hi
  exact h i (by simpa using hi)
theorem bords_no {bs : List (List UInt8)} {i : Nat} (hi : i < bs.length) (h : goodAt bs i = false) : bords bs = false := by
  unfold bords
  rw [List.all_eq_false]
  exact ⟨i, by simpa using hi, by simp [h]⟩
theorem bords_at {bs : List (List UInt8)} (h : bords bs = true) {i : Nat} (hi : i < bs.length) : goodAt bs i = true := by
  unfold bords at h
  rw [List.all_eq_true] at h
  exact h i (by simpa using hi)
theorem not_less (s t : List UInt8) : leT t s = !(Op.bytesLess s t) := by
  have h := cmpT_neg s t
  have h3 := cmpT_vals s t
  rw [Bool.eq_iff_iff, leT_iff, Bool.not_eq_true', ← Bool.not_eq_true, lt_iff]
  omega

set_option maxHeartbeats 4000000 in
theorem borders_any (w : World) (A : Option Addr) (cap : Nat) (bs : List (List UInt8)) (hS : Strs w A cap bs) (hcap : bs.length ≤ 100000) :
    Calls Try.prog 14 #[.slice A bs.length cap] w fun e w' => e = .returned (.bool (bords bs)) ∧ Old w w' := by
  have HS := Lib.hid hS
  clear hS
  go_enter Try.func14, Try.ntmps14
  go_wp2_with fail
  go_loopw [7] (fun iv wr => ∃ k : Nat, iv = .int .i64 k ∧ k ≤ bs.length ∧ Old w wr ∧ Hid (∀ i, i < k → goodAt bs i = true)) (fun iv _ => bs.length - (intOf iv).toNat)
  case atStart => exact ⟨0, rfl, Nat.zero_le _, Old.re _, Lib.hid fun i hi => by omega⟩
  case round =>
    obtain ⟨k, rfl, hk, o1, HB⟩ := hrel
    by_cases hlt : k < bs.length
    · obtain ⟨t, HX⟩ : ∃ t, Hid (bs[k]? = some t) := ⟨bs[k], Lib.hid (List.getElem?_eq_getElem hlt)⟩
      obtain ⟨hln, b, off, rfl, hx⟩ := (HS.out.old o1).2 k t HX.out
      have HNo := Lib.hid (show goodAt bs k = false → bords bs = false from bords_no hlt)
      have HYes := Lib.hid (show goodAt bs k = true → ∀ i, i < k + 1 → goodAt bs i = true from fun h i hi => by
        rcases Nat.lt_or_ge i k with h1 | h1
        · exact HB.out i h1
        · rw [show i = k by omega]; exact h)
      have HG := Lib.hid (show goodAt bs k = (decide (1 ≤ t.length) && decide (t.length ≤ 40) && (k == 0 || Op.bytesLess (bs[k - 1]?.getD []) t)) by unfold goodAt; rw [HX.out]; rfl)
      by_cases h1 : 1 ≤ t.length
      · by_cases h2 : t.length ≤ 40
        · by_cases h3 : k = 0
          · subst h3
            clear HX hln
            rw [Nat.add_zero] at hx
            go_wp2
            go_roundw
            case rel => exact ⟨1, by go_num, by omega, o1, Lib.hid (HYes.out (by rw [HG.out]; simp [h1, h2]))⟩
            case measure => simp [intOf]; omega
          · obtain ⟨q, rfl⟩ : ∃ q, k = q + 1 := ⟨k - 1, by omega⟩
            obtain ⟨s, HY⟩ : ∃ s, Hid (bs[q]? = some s) := ⟨bs[q], Lib.hid (List.getElem?_eq_getElem (by omega))⟩
            obtain ⟨-, b', off', he, hy⟩ := (HS.out.old o1).2 q s HY.out
            simp only [Option.some.injEq, Addr.mk.injEq, and_true] at he
            obtain ⟨rfl, rfl⟩ := he
            have HG2 := Lib.hid (show goodAt bs (q + 1) = !(leT t s) by
              rw [HG.out, Nat.add_sub_cancel, HY.out, not_less]
              simp [h1, h2])
            have hw1 : IntKind.i64.wrap (((q + 1 : Nat) : Int) - 1) = (q : Int) := by rw [IntKind.wrap_i64]; omega
            have hq1 : (0 : Int) < ((q + 1 : Nat) : Int) := by omega
            obtain ⟨d, hd⟩ : ∃ d, d = leT t s := ⟨_, rfl⟩
            have hd2 : (Op.bytesLess t s || t == s) = d := hd.symm
            rw [← hd] at HG2
            clear HX HY hln HG hd
            cases d with
            | false =>
              go_wp2
              go_roundw
              case rel => exact ⟨q + 1 + 1, by go_num, by omega, by first | exact o1 | exact o1.dr | exact o1.dn _, Lib.hid (HYes.out (by rw [HG2.out]; rfl))⟩
              case measure => simp [intOf]; omega
            | true =>
              go_wp2
              go_ret
              exact ⟨ret_bool (by rw [HNo.out (by rw [HG2.out]; rfl)]), by first | exact o1 | exact o1.dr | exact o1.dn _⟩
        · clear HX hln
          go_wp2
          go_ret
          exact ⟨ret_bool (by rw [HNo.out (by rw [HG.out]; simp [h1, h2])]), o1⟩
      · clear HX hln
        go_wp2
        go_ret
        exact ⟨ret_bool (by rw [HNo.out (by rw [HG.out]; simp [h1])]), o1⟩
    · obtain rfl : k = bs.length := by omega
      have HE := Lib.hid (bords_yes HB.out)
      clear HB
      go_wp2
      go_ret
      exact ⟨ret_bool HE.out.symm, o1⟩
end Go.Proofs.Ytohokmfbcehkgaa
