/-
  A beginning of a file is no file; a file with more ahead of it is none. No program in it. No conditions but those written.
-/
import Derived.Test.YtlmlopdakbbbjaaDoorTMth
namespace Go.Proofs.YtlmlopdakbbbjaaDoor
open Go.RowKit

theorem key_ge (c : Cel) : 20 ≤ (key c).length := by
  simp only [key, List.length_append, List.length_cons, List.length_nil, high8]
  omega
theorem blk_bytes (c : Cel) (t : List Cel) : ∃ r, blk (c :: t) = UInt8.ofNat (t.length + 1) :: 0 :: 0 :: UInt8.ofNat (key c).length :: UInt8.ofNat ((key c).length / 256) :: r ∧ (key c).length ≤ r.length := by
  have hl : lend 0 [] = [] := rfl
  refine ⟨key c ++ flag1 c.del ++ [UInt8.ofNat c.val.length] ++ c.val ++ entsFrom 1 (key c) t, ?_, ?_⟩
  · unfold blk
    rw [entsFrom, hl, ent, share_nil_left]
    simp [two]
  · simp only [List.length_append]
    omega
/-- The texts of a file, without their sums. -/
def bodies (l : List Cel) (q : Nat) : List (List UInt8) := (parts l).map blk ++ [lowN (texts l).length 2 ++ ((texts l).map fun t => lowN t.length 4).flatten, filt l, lowN (allB l).length 4 ++ lowN (idx (texts l)).length 4 ++ lowN (put (filt l)).length 4 ++ lowN q 8]
theorem bodies_tbl (l : List Cel) (q : Nat) : tbl l q = ((bodies l q).map put).flatten := by
  unfold bodies tbl ftx idx allB texts
  simp [Function.comp_def]
theorem idx_body_len (ts : List (List UInt8)) : (lowN ts.length 2 ++ (ts.map fun t => lowN t.length 4).flatten).length = 2 + 4 * ts.length := by
  have := idx_len ts
  rw [idx, put_length] at this
  omega
theorem bodies_small {l : List Cel} (q : Nat) (he : errT l = 0) : ∀ t ∈ bodies l q, t.length ≤ 65535 := by
  obtain ⟨h1, h2, h3, -⟩ := errT_zero.1 he
  intro t ht
  unfold bodies at ht
  rcases List.mem_append.1 ht with ht | ht
  · obtain ⟨p, hp, rfl⟩ := List.mem_map.1 ht
    have := blk_len8 p (h3 p hp) (parts_each l p hp).2.1
    omega
  · simp only [List.mem_cons, List.not_mem_nil, or_false] at ht
    rcases ht with rfl | rfl | rfl
    · rw [idx_body_len, texts_len]; omega
    · have := (filt_len l h1).2; omega
    · simp [lowN_length]
theorem allV_puts_app {ts : List (List UInt8)} (h : ∀ t ∈ ts, t.length ≤ 65535) (r : List UInt8) : allV ((ts.map put).flatten ++ r) = ts ++ allV r := by
  induction ts with
  | nil => rfl
  | cons t ts ih =>
    have hg := getV_put t ((ts.map put).flatten ++ r) (h t (by simp))
    rw [List.map_cons, List.flatten_cons, List.append_assoc, allV_yes (by rw [hg]), hg]
    simp only
    rw [show 6 + t.length = (put t).length by rw [put_length], List.drop_left, ih (fun x hx => h x (by simp [hx]))]
    rfl
theorem bodies_len (l : List Cel) (q : Nat) : (bodies l q).length = (parts l).length + 3 := by simp [bodies]
theorem body_idx (l : List Cel) (q : Nat) : (bodies l q)[(parts l).length]? = some (lowN (texts l).length 2 ++ ((texts l).map fun t => lowN t.length 4).flatten) := by
  unfold bodies; rw [List.getElem?_append_right (by simp)]; simp
theorem body_filt (l : List Cel) (q : Nat) : (bodies l q)[(parts l).length + 1]? = some (filt l) := by
  unfold bodies; rw [List.getElem?_append_right (by simp)]; simp
theorem body_foot (l : List Cel) (q : Nat) : (bodies l q)[(parts l).length + 2]? = some (lowN (allB l).length 4 ++ lowN (idx (texts l)).length 4 ++ lowN (put (filt l)).length 4 ++ lowN q 8) := by
  unfold bodies; rw [List.getElem?_append_right (by simp)]; simp
theorem body_blk (l : List Cel) (q k : Nat) (hk : k < (parts l).length) : ∃ c t, (bodies l q)[k]? = some (blk (c :: t)) ∧ (∀ d ∈ c :: t, d ∈ l) := by
  obtain ⟨h1, -, h3⟩ := parts_each l (parts l)[k] (List.getElem_mem hk)
  have e : (bodies l q)[k]? = some (blk (parts l)[k]) := by
    unfold bodies
    rw [List.getElem?_append_left (by simpa using hk), List.getElem?_map, List.getElem?_eq_getElem hk]
    rfl
  generalize (parts l)[k] = p at *
  cases p with
  | nil => exact absurd rfl h1
  | cons c t => exact ⟨c, t, e, h3⟩
theorem flat_cons_take (t : List UInt8) (ts : List (List UInt8)) : ∃ r, ((t :: ts).map fun t => lowN t.length 4).flatten = UInt8.ofNat t.length :: UInt8.ofNat (t.length / 256) :: r := by
  refine ⟨_, by simp [lowN]; rfl⟩
theorem may_of {l : List Cel} (he : errT l = 0) : ∀ c ∈ l, mayB c = true := by
  obtain ⟨-, -, h3, -⟩ := errT_zero.1 he
  intro c hc
  have : c ∈ (parts l).flatten := by rw [parts_flat]; exact hc
  obtain ⟨p, hp, hcp⟩ := List.mem_flatten.1 this
  exact (errB_zero.1 (h3 p hp)).2.1 c hcp
/-- A beginning of a file is none. -/
theorem cut_none (l : List Cel) (q k : Nat) (he : errT l = 0) (hk : k < (tbl l q).length) : openO ((tbl l q).take k) = none := by
  cases hp : openO ((tbl l q).take k) with
  | none => rfl
  | some x =>
    exfalso
    obtain ⟨l', q'⟩ := x
    obtain ⟨he', -, htb, -⟩ := openO_some hp
    have hsp : tbl l q = tbl l' q' ++ (tbl l q).drop k := by rw [htb]; exact (List.take_append_drop _ _).symm
    have hb : bodies l q = bodies l' q' ++ allV ((tbl l q).drop k) := by
      have h1 := allV_puts (bodies_small q he)
      rw [← bodies_tbl, hsp, bodies_tbl l' q', allV_puts_app (bodies_small q' he')] at h1
      rw [h1]
    have hn := congrArg List.length hb
    rw [List.length_append, bodies_len, bodies_len] at hn
    generalize allV ((tbl l q).drop k) = r at *
    by_cases hr : r.length = 0
    · have : r = [] := List.eq_nil_of_length_eq_zero hr
      rw [this, List.append_nil] at hb
      have e1 : tbl l q = tbl l' q' := by rw [bodies_tbl, hb, ← bodies_tbl]
      rw [e1] at hk htb
      have := congrArg List.length htb
      rw [List.length_take] at this
      omega
    have hat : ∀ (i : Nat) (x : List UInt8), (bodies l' q')[i]? = some x → (bodies l q)[i]? = some x := by
      intro i x hx
      rw [hb, List.getElem?_append_left (List.getElem?_eq_some_iff.1 hx).1]
      exact hx
    have hF := hat _ _ (body_foot l' q')
    have hFl : (lowN (allB l').length 4 ++ lowN (idx (texts l')).length 4 ++ lowN (put (filt l')).length 4 ++ lowN q' 8).length = 20 := by simp [lowN_length]
    generalize lowN (allB l').length 4 ++ lowN (idx (texts l')).length 4 ++ lowN (put (filt l')).length 4 ++ lowN q' 8 = F at *
    by_cases c1 : (parts l').length + 2 < (parts l).length
    · obtain ⟨c, tt, e, -⟩ := body_blk l q _ c1
      obtain ⟨rr, e2, h2⟩ := blk_bytes c tt
      rw [hF] at e
      injection e with e
      have := congrArg List.length e
      rw [e2] at this
      simp only [List.length_cons] at this
      have := key_ge c
      omega
    by_cases c2 : (parts l').length + 2 = (parts l).length
    · rw [c2, body_idx] at hF
      injection hF with e
      have := congrArg List.length e
      rw [idx_body_len] at this
      omega
    have c3 : (parts l').length < (parts l).length := by omega
    obtain ⟨c, tt, e, hmem⟩ := body_blk l q _ c3
    obtain ⟨rr, e2, h2⟩ := blk_bytes c tt
    have hI := hat _ _ (body_idx l' q')
    rw [e] at hI
    injection hI with hI
    have hk1 := key_ge c
    have hk2 := key_len c (may_of he c (hmem c (by simp)))
    have ht2 := texts_each (errT_zero.1 he').2.2.1
    cases htx : texts l' with
    | nil =>
      rw [htx] at hI
      have := congrArg List.length hI
      rw [e2] at this
      simp only [List.length_cons] at this
      simp [lowN] at this
    | cons t0 ts0 =>
      have hl0 := ht2 t0 (by rw [htx]; simp)
      rw [htx] at hI
      obtain ⟨r2, e3⟩ := flat_cons_take t0 ts0
      rw [e2, e3] at hI
      simp only [lowN, List.nil_append, List.cons_append, List.cons.injEq] at hI
      have h4 := congrArg UInt8.toNat hI.2.2.2.1
      rw [UInt8.toNat_ofNat', UInt8.toNat_ofNat'] at h4
      omega
theorem more_none (l : List Cel) (q : Nat) (m : List UInt8) (hq : q < 18446744073709551616) (he : errT l = 0) (hm : m ≠ []) : openO (m ++ tbl l q) = none := by
  cases hp : openO (m ++ tbl l q) with
  | none => rfl
  | some x =>
    exfalso
    obtain ⟨l', q'⟩ := x
    obtain ⟨he', -, htb, hq', -, h26, h1, h2, -⟩ := openO_some hp
    have hlen := (tbl_len q he).1
    have hpos := List.length_pos_iff.2 hm
    have hf : footB (m ++ tbl l q) = footB (tbl l q) := by
      unfold footB
      rw [List.length_append, show m.length + (tbl l q).length - 26 = m.length + ((tbl l q).length - 26) by omega, List.drop_append, Nat.add_sub_cancel_left, List.drop_of_length_le (by omega), List.nil_append]
    obtain ⟨a1, a2, a3, -⟩ := foots_tbl l q hq he
    have hq2 : q' < 18446744073709551616 := by
      rw [hq']
      unfold fS
      rw [hf, (foot_tbl l q).2]
      simp only
      rw [(fields _ _ _ _).2.2.2, lowV_lowN]
      exact Nat.mod_lt _ (by decide)
    obtain ⟨b1, b2, b3, -⟩ := foots_tbl l' q' hq2 he'
    rw [htb] at b1 b2 b3
    unfold fA at a1 b1
    unfold fB at a2 b2
    unfold fC at a3 b3
    rw [hf] at b1 b2 b3
    have e1 := congrArg List.length htb
    rw [List.length_append] at e1
    simp only [tbl, List.length_append, ftx_len] at e1
    omega
end Go.Proofs.YtlmlopdakbbbjaaDoor
