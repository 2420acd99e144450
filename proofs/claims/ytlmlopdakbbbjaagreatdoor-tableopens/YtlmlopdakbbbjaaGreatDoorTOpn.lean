/-
  Open of table. Conditions: the table is laid; lengths as written.
-/
import Derived.Test.YtlmlopdakbbbjaaGreatDoorTFot
import Derived.Test.YtlmlopdakbbbjaaGreatDoorTCel
namespace Go.Proofs.YtlmlopdakbbbjaaGreatDoor
open Go.RowKit

/-- An opened file in memory: block g holds it. -/
def Tbl (w : World) (g : Nat) (l : List Cel) (q : Nat) : Prop := ∃ v, Bk w g 71 #[.int .u64 ((allB l).length : Nat), .int .u64 ((idx (texts l)).length : Nat), .int .u64 ((put (filt l)).length : Nat), .int .u64 q, v, .string (B (filt l))] ∧ CelC w v l
theorem Tbl.old {w w' : World} {g : Nat} {l : List Cel} {q : Nat} (h : Tbl w g l q) (o : Old w w') : Tbl w' g l q := by
  obtain ⟨v, h1, h2⟩ := h
  exact ⟨v, h1.old o, h2.old o⟩
theorem openE_20 {s : List UInt8} (h : footE s = 20) : openE s = 20 ∧ openO s = none := by
  have hx : s.length < 26 ∨ (footB s).2.2 ≠ 0 := by
    unfold footE at h
    split at h
    · assumption
    · split at h <;> cases h
  refine ⟨by unfold openE; rw [if_pos hx], ?_⟩
  unfold openO
  rw [if_pos (by rcases hx with h | h; exact .inl h; exact .inr (.inl h))]
theorem openE_no {s : List UInt8} (h : footE s ≠ 20) (h2 : openO s = none) : openE s = 50 := by
  have hx : ¬ (s.length < 26 ∨ (footB s).2.2 ≠ 0) := by
    intro hx
    apply h
    unfold footE
    rw [if_pos hx]
  unfold openE
  rw [if_neg hx, h2]
  rfl
theorem openO_50 {s : List UInt8} (h : footE s = 50) : openO s = none := by
  have hx : (footB s).2.1 < 26 := by
    unfold footE at h
    split at h
    · cases h
    · split at h
      · assumption
      · cases h
  unfold openO
  rw [if_pos (.inr (.inr (.inl hx)))]
theorem footE_val (s : List UInt8) : footE s = 0 ∨ footE s = 20 ∨ footE s = 50 := by
  unfold footE
  split
  · simp
  · split <;> simp
theorem footE_zero {s : List UInt8} (h : footE s = 0) : 26 ≤ s.length ∧ (footB s).2.2 = 0 ∧ 26 ≤ (footB s).2.1 := by
  unfold footE at h
  split at h
  · cases h
  · split at h
    · cases h
    · omega
theorem openO_form {s : List UInt8} (h : footE s = 0) (ha : fA s ≤ s.length) : openO s = match cellsO (allV (s.take (fA s))) with
    | none => none
    | some l => if buildT l (fS s) = s then some (l, fS s) else none := by
  obtain ⟨h1, h2, h3⟩ := footE_zero h
  unfold openO
  rw [if_neg (by omega)]
  cases cellsO (allV (s.take (fA s))) <;> rfl
theorem fA_lt (s : List UInt8) (h : (footB s).1.length = 20) : fA s < 4294967296 ∧ fB s < 4294967296 ∧ fS s < 18446744073709551616 := by
  unfold fA fB fS
  have h1 := lowV_lt ((footB s).1.take 4)
  have h2 := lowV_lt (((footB s).1.drop 4).take 4)
  have h3 := lowV_lt ((footB s).1.drop 12)
  rw [show ((footB s).1.take 4).length = 4 by simp; omega] at h1
  rw [show (((footB s).1.drop 4).take 4).length = 4 by simp; omega] at h2
  rw [show ((footB s).1.drop 12).length = 8 by simp; omega] at h3
  exact ⟨h1, h2, h3⟩

/-- What Open answers. -/
def OpenP (s : List UInt8) (w : World) (e : Ending) (w' : World) : Prop := Old w w' ∧ ((openO s = none ∧ e = .returned (.tuple #[.pointer none, .int .i64 (openE s)])) ∨
  ∃ l q g, openO s = some (l, q) ∧ w.heap.size ≤ g ∧ e = .returned (.tuple #[.pointer (some ⟨g, 0, none⟩), .int .i64 0]) ∧ Tbl w' g l q)
theorem OpenP.none {s : List UInt8} {w w' : World} {e : Ending} {x : Int} (o : Old w w') (h : openO s = none) (hx : openE s = x) (he : e = .returned (.tuple #[.pointer none, .int .i64 x])) : OpenP s w e w' := ⟨o, .inl ⟨h, by rw [he, hx]⟩⟩

theorem tbl_behind (l : List Cel) (q : Nat) : (tbl l q).drop ((allB l).length + (idx (texts l)).length) = put (filt l) ++ ftx (allB l).length (idx (texts l)).length (put (filt l)).length q := by
  unfold tbl
  rw [List.append_assoc (allB l ++ idx (texts l)), List.drop_left' (by rw [List.length_append])]
theorem opened {s : List UInt8} {l : List Cel} {q : Nat} (h : openO s = some (l, q)) : fA s = (allB l).length ∧ fB s = (idx (texts l)).length ∧ fC s = (put (filt l)).length ∧ q = fS s ∧ fA s + fB s ≤ s.length ∧ getV (s.drop (fA s + fB s)) = (filt l, 6 + (filt l).length, 0) := by
  obtain ⟨he, hok, htb, hq, hc, h26, hf2, hf3, ha⟩ := openO_some h
  have hS := (fA_lt s (footB_text h26 hf2 hf3)).2.2
  rw [← hq] at hS
  obtain ⟨f1, f2, f3, f4⟩ := foots_tbl l q hS he
  rw [htb] at f1 f2 f3 f4
  refine ⟨f1, f2, f3, hq, ?_, ?_⟩
  · rw [f1, f2, ← htb, tbl]
    simp only [List.length_append]
    omega
  · have hb := tbl_behind l q
    rw [htb, ← f1, ← f2] at hb
    rw [hb]
    have h2 := (filt_len l (errT_zero.1 he).1).2
    exact getV_put _ _ (by omega)

set_option maxRecDepth 100000 in
set_option maxHeartbeats 8000000 in
theorem open_any (s : List UInt8) (hs : s.length ≤ 400000) (w : World) (ht : Tab w) :
    Calls Tryz.prog 9 #[.string (B s)] w (OpenP s w) := by
  go_enter Tryz.func9, Tryz.ntmps9
  go_wp2_with fail
  refine (footOf_any s (by omega) _ ht).mono ?_
  rintro e w1 ⟨rfl, k1⟩
  by_cases hf : footE s = 0
  case neg =>
    have hN : openO s = none := by
      rcases footE_val s with h | h | h
      · exact absurd h hf
      · exact (openE_20 h).2
      · exact openO_50 h
    have hE : openE s = footE s := by
      rcases footE_val s with h | h | h
      · exact absurd h hf
      · rw [(openE_20 h).1, h]
      · rw [openE_no (by rw [h]; decide) hN, h]
    have HN := Lib.hid hN
    have HE := Lib.hid hE
    rw [show footV s = .tuple #[.agg #[.int .u64 0, .int .u64 0, .int .u64 0, .int .u64 0], .int .i64 (footE s)] by unfold footV; rw [if_neg hf]]
    have hfe : (footE s != 0) = true := by simpa using hf
    clear hN hE hf
    generalize footE s = fe at *
    go_wp2
    go_ret2
    exact OpenP.none (k1.al _) HN.out HE.out rfl
  obtain ⟨h26, hf2, hf3⟩ := footE_zero hf
  obtain ⟨hA, hB, hS⟩ := fA_lt s (footB_text h26 hf2 hf3)
  have HF := Lib.hid (openO_form hf)
  have H50 := Lib.hid (openE_no (s := s) (by rw [hf]; decide))
  rw [show footV s = .tuple #[.agg #[.int .u64 (fA s), .int .u64 (fB s), .int .u64 (fC s), .int .u64 (fS s)], .int .i64 0] by unfold footV; rw [if_pos hf]]
  clear hf hf2 hf3
  have hF := new_bk w1 52 #[.int .u64 (fA s : Int), .int .u64 (fB s : Int), .int .u64 (fC s : Int), .int .u64 (fS s : Int)]
  have o2 := k1.al (.cells #[.int .u64 (fA s : Int), .int .u64 (fB s : Int), .int .u64 (fC s : Int), .int .u64 (fS s : Int)] 52)
  have hu := u64_id s.length (by omega)
  by_cases ha : s.length < fA s
  · have HN := Lib.hid (show openO s = none by unfold openO; rw [if_pos (by omega)])
    have da : decide ((s.length : Int) < (fA s : Int)) = true := by simp; omega
    go_wp2
    go_ret2
    exact OpenP.none o2 HN.out (H50.out HN.out) rfl
  have da : decide ((s.length : Int) < (fA s : Int)) = false := by simp; omega
  have ha1 : fA s ≤ s.length := by omega
  have ha2 : (fA s : Int) ≤ (s.length : Int) := by omega
  have HF2 := Lib.hid (HF.out ha1)
  have xa : (B s).extract 0 (fA s) = B (s.take (fA s)) := ext_take _ _
  have hal : (s.take (fA s)).length ≤ 400000 := by simp; omega
  clear HF
  go_wp2_with fail
  generalize w1.alloc (.cells #[.int .u64 (fA s : Int), .int .u64 (fB s : Int), .int .u64 (fC s : Int), .int .u64 (fS s : Int)] 52) = w2 at *
  generalize w1.heap.size = gf at *
  refine (cellsOf_any _ hal _ (ht.old o2)).mono ?_
  rintro e w3 ⟨v3, rfl, hO, k3⟩
  have o3 := o2.tr k3
  have hF3 := hF.old k3
  have hta := took_all (s.take (fA s))
  clear k3 o2 hF xa hal da
  cases hc : cellsO (allV (s.take (fA s))) with
  | none =>
    have HN := Lib.hid (show openO s = none by rw [HF2.out, hc])
    rw [show cellsE (s.take (fA s)) = 50 by unfold cellsE; rw [hc]; rfl]
    obtain ⟨A3, n3, c3, rfl⟩ := hO.form
    go_wp2
    go_ret2
    exact OpenP.none o3 HN.out (H50.out HN.out) rfl
  | some l =>
    rw [hc, Option.getD_some] at hO
    rw [show cellsE (s.take (fA s)) = 0 by unfold cellsE; rw [hc]; rfl]
    have hln := cellsO_len hc
    have hl3 : l.length ≤ 1000000 := by
      have : (s.take (fA s)).length ≤ s.length := by simp; omega
      omega
    have hok := cellsO_ok hc
    have HF3 := Lib.hid (show openO s = if buildT l (fS s) = s then some (l, fS s) else none by rw [HF2.out, hc])
    clear HF2 hc hta hln
    have hCC := hO.room
    obtain ⟨A3, n3, c3, rfl⟩ := hO.form
    obtain ⟨z0, z1, z2, z3⟩ := hF3.four
    clear hO
    go_wp2_with fail
    refine (tbuild_any _ l (fS s) _ hCC hok hl3 hS (ht.old o3)).mono ?_
    rintro e w4 ⟨rfl, k4⟩
    have o4 := o3.tr k4
    have hF4 := hF3.old k4
    have hC4 := hCC.old k4
    clear k4 o3 hF3 hCC z0 z1 z2 z3
    rw [show buildTV l (fS s) = .tuple #[.string (B (buildT l (fS s))), .int .i64 (errT l)] from rfl]
    by_cases hb : buildT l (fS s) = s
    case neg =>
      have HN := Lib.hid (show openO s = none by rw [HF3.out, if_neg hb])
      have hbe : (buildT l (fS s) == s) = false := by simpa using hb
      go_wp2
      go_ret2
      exact OpenP.none o4 HN.out (H50.out HN.out) rfl
    have HO := Lib.hid (show openO s = some (l, fS s) by rw [HF3.out, if_pos hb])
    obtain ⟨e1, e2, e3, -, e5, e6⟩ := opened HO.out
    have HG := Lib.hid (getR_of e6)
    have HE := Lib.hid (And.intro e1 (And.intro e2 e3))
    rw [hb]
    clear HF3 hb e1 e2 e3 e6 hok
    have hw1 : IntKind.u64.wrap ((fA s : Int) + (fB s : Int)) = ((fA s + fB s : Nat) : Int) := by rw [IntKind.wrap_u64]; omega
    have i5 : ((fA s : Int) + (fB s : Int)) ≤ (s.length : Int) := by omega
    have xt : (B s).extract (fA s + fB s) s.length = B (s.drop (fA s + fB s)) := ext_drop _ _ _ (Nat.le_refl _)
    have hxl : (s.drop (fA s + fB s)).length ≤ 1000000 := by simp; omega
    obtain ⟨z0, z1, z2, z3⟩ := hF4.four
    go_upto_region 13 with (go_at_call 35; refine (get_any (s.drop (fA s + fB s)) hxl _ (ht.old o4)).mono ?_; rintro e' w5 ⟨rfl, k5⟩; rw [HG.out])
    have o5 := o4.tr k5.old
    have hF5 := hF4.old k5.old
    have hC5 := hC4.old k5.old
    clear o4 hF4 hC4 k5 z0 z1 z2 z3
    obtain ⟨z0, z1, z2, z3⟩ := hF5.four
    have hsz := o5.size
    have hT := new_bk w5 71 #[.int .u64 (fA s : Int), .int .u64 (fB s : Int), .int .u64 (fC s : Int), .int .u64 (fS s : Int), .slice A3 n3 c3, .string (B (filt l))]
    have o6 := o5.al (.cells #[.int .u64 (fA s : Int), .int .u64 (fB s : Int), .int .u64 (fC s : Int), .int .u64 (fS s : Int), .slice A3 n3 c3, .string (B (filt l))] 71)
    have hC6 := hC5.old (old_alloc w5 (.cells #[.int .u64 (fA s : Int), .int .u64 (fB s : Int), .int .u64 (fC s : Int), .int .u64 (fS s : Int), .slice A3 n3 c3, .string (B (filt l))] 71))
    go_wp2
    go_ret2
    refine ⟨o6, .inr ⟨l, fS s, w5.heap.size, HO.out, hsz, rfl, .slice A3 n3 c3, ?_, hC6⟩⟩
    obtain ⟨e1, e2, e3⟩ := HE.out
    rw [← e1, ← e2, ← e3]
    exact hT
end Go.Proofs.YtlmlopdakbbbjaaGreatDoor
