/-
  Open of a log. Conditions: the disk lies in memory; the table is laid; lengths as written.
-/
import Derived.Test.YtilimfbjkgeciaaDoorWChg
namespace Go.Proofs.YtilimfbjkgeciaaDoor
set_option maxRecDepth 100000
open Go.RowKit Go.Maps Go.Shelf

theorem took_allV (s : List UInt8) : took (allV s) ≤ s.length := by
  induction h : s.length using Nat.strongRecOn generalizing s with
  | _ n ih =>
    by_cases hg : (getV s).2.2 = 0
    · rw [allV_yes hg]
      obtain ⟨-, h1, -⟩ := getV_ok hg
      have := ih (s.drop (6 + (getV s).1.length)).length (by simp; omega) _ rfl
      simp only [took, List.map_cons, List.sum_cons, List.length_drop] at *
      omega
    · rw [allV_no hg]; simp [took]
theorem row_kept {k k' : Dsk} {w w' : World} {base n : Nat} {v : Value} {vs : List Value} (h : Kept k k' w w') (hd : Dk w k) (r : w.ownsRow base 9 1 v n vs) : w'.ownsRow base 9 1 v n vs := by
  refine ⟨r.1, ?_⟩
  rcases r.2 with h1 | ⟨gg, cap, cur, hv, hb, hg, rest⟩
  · exact .inl h1
  · exact .inr ⟨gg, cap, cur, hv, hb, (h.block gg (Array.getElem?_eq_some_iff.1 hg).1 (hd.other (g := gg) hg (by decide) (by decide) (by decide) (by decide))).trans hg, rest⟩

theorem row_base {w : World} {base b0 n : Nat} {v : Value} {vs : List Value} (r : w.ownsRow base 9 1 v n vs) (hle : b0 ≤ base) : w.ownsRow b0 9 1 v n vs := by
  refine ⟨r.1, ?_⟩
  rcases r.2 with h1 | ⟨gg, cap, cur, hv, hb, rest⟩
  · exact .inl h1
  · exact .inr ⟨gg, cap, cur, hv, Nat.le_trans hle hb, rest⟩

def bad59 (x : List UInt8) : Bool := decide (x.length < 1) || decide (59 < x.length)
def popenT (p : Pd) (x : List UInt8) : List (List UInt8) := allV (pread p x).1
def popenF (p : Pd) (x : List UInt8) : Pd × Int :=
  if (pread p x).2 = 0 ∧ took (popenT p x) = (pread p x).1.length then psync p x else pwrite x ((pread p x).1.take (took (popenT p x))) p
/-- Open, as plain data: the disk, the texts, the error. -/
def popen (p : Pd) (x : List UInt8) : Pd × List (List UInt8) × Int :=
  if bad59 x = true then (p, [], 1)
  else if (pread p x).2 ≠ 0 ∧ (pread p x).2 ≠ 3 then (p, [], (pread p x).2)
  else ((popenF p x).1, popenT p x, (popenF p x).2)
theorem pread_err (p : Pd) (x : List UInt8) (h : (pread p x).2 ≠ 0) : (pread p x).1 = [] := by
  unfold pread at *
  by_cases h1 : pneed p x ≠ 0
  · rw [if_pos h1]
  · rw [if_neg h1] at h
    exact absurd rfl h
theorem pread_len {w : World} {k : Dsk} (h : Dk w k) (x : List UInt8) : (pread (ab k) x).1.length ≤ k.cap := by
  have h1 : ∀ f, pfnd (ab k).files x = some f → f.s.length ≤ k.cap := by
    intro f hf
    rw [show pfnd (ab k).files x = (fnd k.files x).map st from st_fnd _ _] at hf
    cases hg : fnd k.files x with
    | none => rw [hg] at hf; cases hf
    | some g =>
      rw [hg] at hf
      injection hf with hf
      subst hf
      exact Nat.le_trans (len_le_total (fnd_mem hg)) h.ok.room
  unfold pread
  by_cases h2 : pneed (ab k) x ≠ 0
  · rw [if_pos h2]; exact Nat.zero_le _
  · rw [if_neg h2]
    cases hf : pfnd (ab k).files x with
    | none => exact Nat.zero_le _
    | some f => exact h1 f hf

def PostO (k : Dsk) (x : List UInt8) (w : World) (r : Pd × List (List UInt8) × Int) (e : Ending) (w' : World) : Prop :=
  ∃ k', ab k' = r.1 ∧ k'.d = k.d ∧ Dk w' k' ∧ Kept k k' w w' ∧
    ((r.2.2 = 0 ∧ ∃ lb A cap, e = .returned (.tuple #[ptr lb, .slice A r.2.1.length cap, .int .i64 0]) ∧ w.heap.size ≤ lb ∧ Lg w' lb k.d x r.2.1.length false ∧ Strs w' A cap r.2.1 ∧ w'.ownsRow w.heap.size 9 1 (.slice A r.2.1.length cap) r.2.1.length (ts r.2.1)) ∨
     (r.2.2 ≠ 0 ∧ e = .returned (.tuple #[.pointer none, .slice none 0 0, .int .i64 r.2.2])))

/-- The bytes' texts, as All answers them. -/
theorem allO_any (s : List UInt8) (hs : s.length ≤ 1000000) (w : World) (ht : Tab w) :
    Calls Tryd.prog 29 #[.string (B s)] w fun e w' => ∃ A cap, e = .returned (.tuple #[.slice A (allV s).length cap, .int .i64 (took (allV s) : Nat)]) ∧ Strs w' A cap (allV s) ∧ w'.ownsRow w.heap.size 9 1 (.slice A (allV s).length cap) (allV s).length (ts (allV s)) ∧ Old w w' := by
  refine ((callsIn_wide (n := 3)).1 (all_in 3 (by omega) s hs w ht)).mono ?_
  rintro e w' ⟨v, rfl, h, hb⟩
  obtain ⟨A, cap, rfl, hA⟩ := strs_of_own h (fun t ht => by have := allV_small s t ht; omega)
  exact ⟨A, cap, rfl, hA, h, hb⟩

theorem strs_row {w : World} {base cap : Nat} {A : Option Addr} {l : List (List UInt8)} (h : w.ownsRow base 9 1 (.slice A l.length cap) l.length (ts l)) (hl : ∀ t ∈ l, t.length ≤ 1000000) : Strs w A cap l := by
  obtain ⟨A', cap', ev, hA'⟩ := strs_of_own h hl
  injection ev with ea eb ec
  subst ea ec
  exact hA'
theorem popenT_small (p : Pd) (x : List UInt8) : ∀ t ∈ popenT p x, t.length ≤ 1000000 := fun t h => by
  have := allV_small _ t h
  omega

set_option maxHeartbeats 4000000 in
theorem open_any (k : Dsk) (x : List UInt8) (hx : x.length ≤ 1000) (w : World) (ht : Tab w) (h : Dk w k) (hc : k.cap ≤ 1000000) :
    Calls Tryd.prog 10 #[ptr k.d, .string (B x)] w (PostO k x w (popen (ab k) x)) := by
  obtain ⟨R, hR⟩ : ∃ R, R = popen (ab k) x := ⟨_, rfl⟩
  rw [← hR]
  have HR := Lib.hid hR
  clear hR
  have HO := Lib.hid (fun (y : Int) (w1 : World) (o : Old w w1) (hy : y ≠ 0) (hr : R = (ab k, [], y)) => (show PostO k x w R (.returned (.tuple #[.pointer none, .slice none 0 0, .int .i64 y])) w1 from by
    rw [hr]
    exact ⟨k, rfl, rfl, h.old o, Kept.of_old o, .inr ⟨hy, rfl⟩⟩))
  by_cases h0 : x = []
  · have HX := Lib.hid (HO.out 1 w (Old.re w) (by decide) (by rw [HR.out, h0]; rfl))
    subst h0
    clear h HO
    go_enter Tryd.func10, Tryd.ntmps10
    go_wp2
    go_ret3
    exact HX.out
  have hie : x.isEmpty = false := by cases x with | nil => exact absurd rfl h0 | cons a x => rfl
  have h1 : 1 ≤ x.length := by cases x with | nil => exact absurd rfl h0 | cons a x => simp
  by_cases h59 : 59 < x.length
  · have HX := Lib.hid (HO.out 1 w (Old.re w) (by decide) (by rw [HR.out]; unfold popen bad59; simp [h59]))
    clear h HO h0
    go_enter Tryd.func10, Tryd.ntmps10
    go_wp2
    go_ret3
    exact HX.out
  have hb59 : bad59 x = false := by
    unfold bad59
    rw [Bool.or_eq_false_iff, decide_eq_false_iff_not, decide_eq_false_iff_not]
    omega
  have HRD := Lib.hid (read_u k x (by omega) w h)
  by_cases her : (pread (ab k) x).2 ≠ 0 ∧ (pread (ab k) x).2 ≠ 3
  · have HX := Lib.hid (fun w1 (o : Old w w1) => HO.out (pread (ab k) x).2 w1 o her.1 (by rw [HR.out]; unfold popen; rw [hb59, if_neg (by decide), if_pos her]))
    obtain ⟨e1, e2⟩ := her
    generalize pread (ab k) x = q at *
    have b1 : (q.2 != 0) = true := by simpa using e1
    have b2 : (q.2 != 3) = true := by simpa using e2
    clear h HO h0 HR hb59
    go_enter Tryd.func10, Tryd.ntmps10
    go_wp2_with fail
    refine HRD.out.mono ?_
    rintro e w1 ⟨rfl, o1⟩
    go_wp2
    go_ret3
    exact HX.out _ o1
  have HR2 := Lib.hid (show R = ((popenF (ab k) x).1, popenT (ab k) x, (popenF (ab k) x).2) by rw [HR.out]; unfold popen; rw [hb59, if_neg (by decide), if_neg her])
  have hlen := pread_len h x
  have HA := Lib.hid (fun w1 (o : Old w w1) => allO_any (pread (ab k) x).1 (by omega) w1 (ht.old o))
  have htk := took_allV (pread (ab k) x).1
  have HPE := Lib.hid (pread_err (ab k) x)
  have HTX := Lib.hid (show popenT (ab k) x = allV (pread (ab k) x).1 from rfl)
  have HFF := Lib.hid (show popenF (ab k) x = if (pread (ab k) x).2 = 0 ∧ took (allV (pread (ab k) x).1) = (pread (ab k) x).1.length then psync (ab k) x else pwrite x ((pread (ab k) x).1.take (took (allV (pread (ab k) x).1))) (ab k) from rfl)
  have HSY := Lib.hid (fun w1 (o : Old w w1) => sync_u k x (by omega) w1 (h.old o))
  have HWR := Lib.hid (fun w1 lb many off s (o : Old w w1) (hl : Lg w1 lb k.d x many off) (hs : s.length ≤ 1000000) => write_any k lb many x s off hx (by omega) w1 (h.old o) hl)
  have HSM := Lib.hid (popenT_small (ab k) x)
  rw [HTX.out] at HSM
  have HFIN := Lib.hid (fun (w1 w2 : World) (e : Ending) (lb : Nat) (A : Option Addr) (cap : Nat) (q : Pd × Int) (o : Old w w1) (hr : popenF (ab k) x = q) (hlb : w.heap.size ≤ lb) (hl : Lg w1 lb k.d x (allV (pread (ab k) x).1).length false) (hrow : w1.ownsRow w.heap.size 9 1 (.slice A (allV (pread (ab k) x).1).length cap) (allV (pread (ab k) x).1).length (ts (allV (pread (ab k) x).1))) (hp : Post k w1 q e w2) =>
    (show e = .returned (.int .i64 q.2) ∧ (q.2 = 0 → PostO k x w R (.returned (.tuple #[ptr lb, .slice A (allV (pread (ab k) x).1).length cap, .int .i64 0])) w2) ∧ (q.2 ≠ 0 → PostO k x w R (.returned (.tuple #[.pointer none, .slice none 0 0, .int .i64 q.2])) w2) from by
      obtain ⟨e1, k', p1, p2, p3, p4⟩ := hp
      have hd1 := h.old o
      rw [HR2.out, hr, HTX.out]
      have hrow2 := row_kept p4 hd1 hrow
      exact ⟨e1, fun hz => ⟨k', p1, p2, p3, (Kept.of_old o).tr p4, .inl ⟨hz, lb, A, cap, rfl, hlb, p4.bk hl (hd1.other hl (by decide) (by decide) (by decide) (by decide)), strs_row hrow2 HSM.out, hrow2⟩⟩,
        fun hz => ⟨k', p1, p2, p3, (Kept.of_old o).tr p4, .inr ⟨hz, rfl⟩⟩⟩))
  have hlen0 : (pread (ab k) x).1.length ≤ 1000000 := by omega
  clear h HO h0 HR hb59 HR2 hlen HTX HSM
  generalize hQ : pread (ab k) x = q at *
  obtain ⟨s, y⟩ := q
  simp only at *
  clear hQ
  generalize psync (ab k) x = qs at *
  by_cases hok : y = 0 ∧ took (allV s) = s.length
  · obtain ⟨rfl, e2⟩ := hok
    rw [if_pos ⟨rfl, e2⟩] at HFF
    have e2b : ((took (allV s) : Nat) : Int) = ((s.length : Nat) : Int) := by rw [e2]
    generalize took (allV s) = tk at *
    generalize allV s = T at *
    by_cases hz : qs.2 = 0
    · have hzb : (qs.2 != 0) = false := by rw [hz]; decide
      go_enter Tryd.func10, Tryd.ntmps10
      go_wp2_with fail
      refine HRD.out.mono ?_
      rintro e w1 ⟨rfl, o1⟩
      go_wp2_with fail
      refine (HA.out w1 o1).mono ?_
      rintro e w2 ⟨A, cap, rfl, hS, hrow, o2⟩
      have o3 := (o1.tr o2).al (.cells #[ptr k.d, .string (B x), .int .i64 (T.length : Int), .bool false] 67)
      have hlg := new_bk w2 67 #[ptr k.d, .string (B x), .int .i64 (T.length : Int), .bool false]
      have hro := row_base (World.ownsRow.alloc hrow (.cells #[ptr k.d, .string (B x), .int .i64 (T.length : Int), .bool false] 67)) o1.size
      clear hS hrow
      go_wp2_with fail
      refine (HSY.out _ o3).mono ?_
      rintro e w3 hp
      obtain ⟨rfl, HF1, HF0⟩ := HFIN.out _ _ _ w2.heap.size A cap qs o3 HFF.out (o1.tr o2).size hlg hro hp
      have HF2 := Lib.hid (HF1 hz)
      clear HF1 HF0 hp hro hlg
      go_wp2
      go_ret3
      exact HF2.out
    · have hzb : (qs.2 != 0) = true := by simpa using hz
      go_enter Tryd.func10, Tryd.ntmps10
      go_wp2_with fail
      refine HRD.out.mono ?_
      rintro e w1 ⟨rfl, o1⟩
      go_wp2_with fail
      refine (HA.out w1 o1).mono ?_
      rintro e w2 ⟨A, cap, rfl, hS, hrow, o2⟩
      have o3 := (o1.tr o2).al (.cells #[ptr k.d, .string (B x), .int .i64 (T.length : Int), .bool false] 67)
      have hlg := new_bk w2 67 #[ptr k.d, .string (B x), .int .i64 (T.length : Int), .bool false]
      have hro := row_base (World.ownsRow.alloc hrow (.cells #[ptr k.d, .string (B x), .int .i64 (T.length : Int), .bool false] 67)) o1.size
      clear hS hrow
      go_wp2_with fail
      refine (HSY.out _ o3).mono ?_
      rintro e w3 hp
      obtain ⟨rfl, HF1, HF0⟩ := HFIN.out _ _ _ w2.heap.size A cap qs o3 HFF.out (o1.tr o2).size hlg hro hp
      have HF2 := Lib.hid (HF0 hz)
      clear HF1 HF0 hp hro hlg
      go_wp2
      go_ret3
      exact HF2.out
  · rw [if_neg hok] at HFF
    have xt : (B s).extract 0 (took (allV s)) = B (s.take (took (allV s))) := ext_take _ _
    have hsl : (s.take (took (allV s))).length ≤ 1000000 := by rw [List.length_take]; omega
    have htI : ((took (allV s) : Nat) : Int) ≤ ((s.length : Nat) : Int) := by omega
    have HWR2 := Lib.hid (fun w1 lb many off (o : Old w w1) (hl : Lg w1 lb k.d x many off) => HWR.out w1 lb many off (s.take (took (allV s))) o hl hsl)
    clear HWR
    generalize pwrite x (s.take (took (allV s))) (ab k) = qw at *
    generalize s.take (took (allV s)) = u at *
    generalize took (allV s) = tk at *
    generalize allV s = T at *
    by_cases hy : y = 0
    · subst hy
      have e2b : (((tk : Nat) : Int) == ((s.length : Nat) : Int)) = false := by
        rw [beq_eq_false_iff_ne]
        exact fun e => hok ⟨rfl, by omega⟩
      clear hok
      by_cases hz : qw.2 = 0
      · have hzb : (qw.2 != 0) = false := by rw [hz]; decide
        go_enter Tryd.func10, Tryd.ntmps10
        go_wp2_with fail
        refine HRD.out.mono ?_
        rintro e w1 ⟨rfl, o1⟩
        go_wp2_with fail
        refine (HA.out w1 o1).mono ?_
        rintro e w2 ⟨A, cap, rfl, hS, hrow, o2⟩
        have o3 := (o1.tr o2).al (.cells #[ptr k.d, .string (B x), .int .i64 (T.length : Int), .bool false] 67)
        have hlg := new_bk w2 67 #[ptr k.d, .string (B x), .int .i64 (T.length : Int), .bool false]
        have hro := row_base (World.ownsRow.alloc hrow (.cells #[ptr k.d, .string (B x), .int .i64 (T.length : Int), .bool false] 67)) o1.size
        clear hS hrow
        go_wp2_with fail
        refine (HWR2.out _ _ _ _ o3 hlg).mono ?_
        rintro e w3 hp
        obtain ⟨rfl, HF1, HF0⟩ := HFIN.out _ _ _ w2.heap.size A cap qw o3 HFF.out (o1.tr o2).size hlg hro hp
        have HF2 := Lib.hid (HF1 hz)
        clear HF1 HF0 hp hro hlg
        go_wp2
        go_ret3
        exact HF2.out
      · have hzb : (qw.2 != 0) = true := by simpa using hz
        go_enter Tryd.func10, Tryd.ntmps10
        go_wp2_with fail
        refine HRD.out.mono ?_
        rintro e w1 ⟨rfl, o1⟩
        go_wp2_with fail
        refine (HA.out w1 o1).mono ?_
        rintro e w2 ⟨A, cap, rfl, hS, hrow, o2⟩
        have o3 := (o1.tr o2).al (.cells #[ptr k.d, .string (B x), .int .i64 (T.length : Int), .bool false] 67)
        have hlg := new_bk w2 67 #[ptr k.d, .string (B x), .int .i64 (T.length : Int), .bool false]
        have hro := row_base (World.ownsRow.alloc hrow (.cells #[ptr k.d, .string (B x), .int .i64 (T.length : Int), .bool false] 67)) o1.size
        clear hS hrow
        go_wp2_with fail
        refine (HWR2.out _ _ _ _ o3 hlg).mono ?_
        rintro e w3 hp
        obtain ⟨rfl, HF1, HF0⟩ := HFIN.out _ _ _ w2.heap.size A cap qw o3 HFF.out (o1.tr o2).size hlg hro hp
        have HF2 := Lib.hid (HF0 hz)
        clear HF1 HF0 hp hro hlg
        go_wp2
        go_ret3
        exact HF2.out
    · obtain rfl : y = 3 := by
        rcases Classical.em (y = 3) with h | h
        · exact h
        · exact absurd ⟨hy, h⟩ her
      clear hok
      by_cases hz : qw.2 = 0
      · have hzb : (qw.2 != 0) = false := by rw [hz]; decide
        go_enter Tryd.func10, Tryd.ntmps10
        go_wp2_with fail
        refine HRD.out.mono ?_
        rintro e w1 ⟨rfl, o1⟩
        go_wp2_with fail
        refine (HA.out w1 o1).mono ?_
        rintro e w2 ⟨A, cap, rfl, hS, hrow, o2⟩
        have o3 := (o1.tr o2).al (.cells #[ptr k.d, .string (B x), .int .i64 (T.length : Int), .bool false] 67)
        have hlg := new_bk w2 67 #[ptr k.d, .string (B x), .int .i64 (T.length : Int), .bool false]
        have hro := row_base (World.ownsRow.alloc hrow (.cells #[ptr k.d, .string (B x), .int .i64 (T.length : Int), .bool false] 67)) o1.size
        clear hS hrow
        go_wp2_with fail
        refine (HWR2.out _ _ _ _ o3 hlg).mono ?_
        rintro e w3 hp
        obtain ⟨rfl, HF1, HF0⟩ := HFIN.out _ _ _ w2.heap.size A cap qw o3 HFF.out (o1.tr o2).size hlg hro hp
        have HF2 := Lib.hid (HF1 hz)
        clear HF1 HF0 hp hro hlg
        go_wp2
        go_ret3
        exact HF2.out
      · have hzb : (qw.2 != 0) = true := by simpa using hz
        go_enter Tryd.func10, Tryd.ntmps10
        go_wp2_with fail
        refine HRD.out.mono ?_
        rintro e w1 ⟨rfl, o1⟩
        go_wp2_with fail
        refine (HA.out w1 o1).mono ?_
        rintro e w2 ⟨A, cap, rfl, hS, hrow, o2⟩
        have o3 := (o1.tr o2).al (.cells #[ptr k.d, .string (B x), .int .i64 (T.length : Int), .bool false] 67)
        have hlg := new_bk w2 67 #[ptr k.d, .string (B x), .int .i64 (T.length : Int), .bool false]
        have hro := row_base (World.ownsRow.alloc hrow (.cells #[ptr k.d, .string (B x), .int .i64 (T.length : Int), .bool false] 67)) o1.size
        clear hS hrow
        go_wp2_with fail
        refine (HWR2.out _ _ _ _ o3 hlg).mono ?_
        rintro e w3 hp
        obtain ⟨rfl, HF1, HF0⟩ := HFIN.out _ _ _ w2.heap.size A cap qw o3 HFF.out (o1.tr o2).size hlg hro hp
        have HF2 := Lib.hid (HF0 hz)
        clear HF1 HF0 hp hro hlg
        go_wp2
        go_ret3
        exact HF2.out
end Go.Proofs.YtilimfbjkgeciaaDoor
