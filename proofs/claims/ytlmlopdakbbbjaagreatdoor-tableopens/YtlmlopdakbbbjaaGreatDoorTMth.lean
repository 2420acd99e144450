/-
  A file's bytes, as plain lists: parts of eight, texts, index, rows, filter, foot; what Build and Open tell. No program in it. No conditions but those written.
-/
import Derived.Test.YtlmlopdakbbbjaaGreatDoorBlk
import Derived.Test.YtlmlopdakbbbjaaGreatDoorCG
import Derived.Test.YtlmlopdakbbbjaaGreatDoorMG
import Derived.Lib.SlicesCompact
import Derived.Lib.RowBridge
namespace Go.Proofs.YtlmlopdakbbbjaaGreatDoor
open Go.RowKit

/-- Parts of eight. -/
def parts (l : List Cel) : List (List Cel) := if _h : l = [] then [] else l.take 8 :: parts (l.drop 8)
termination_by l.length
decreasing_by
  have := List.length_pos_iff.2 _h
  simp only [List.length_drop]
  omega
theorem parts_nil : parts [] = [] := by rw [parts, dif_pos rfl]
theorem parts_cons {l : List Cel} (h : l ≠ []) : parts l = l.take 8 :: parts (l.drop 8) := by rw [parts, dif_neg h]
theorem parts_ind {P : List Cel → Prop} (h0 : P []) (h1 : ∀ l, l ≠ [] → P (l.drop 8) → P l) (l : List Cel) : P l := by
  induction h : l.length using Nat.strongRecOn generalizing l with
  | _ n ih =>
    by_cases hl : l = []
    · rw [hl]; exact h0
    · have := List.length_pos_iff.2 hl
      exact h1 l hl (ih (l.drop 8).length (by simp; omega) _ rfl)
theorem parts_flat (l : List Cel) : (parts l).flatten = l := by
  induction l using parts_ind with
  | h0 => rw [parts_nil]; rfl
  | h1 l hl ih => rw [parts_cons hl, List.flatten_cons, ih, List.take_append_drop]
theorem parts_len (l : List Cel) : (parts l).length = (l.length + 7) / 8 := by
  induction l using parts_ind with
  | h0 => rw [parts_nil]; rfl
  | h1 l hl ih =>
    have := List.length_pos_iff.2 hl
    rw [parts_cons hl, List.length_cons, ih, List.length_drop]
    omega
theorem parts_each (l : List Cel) : ∀ p ∈ parts l, p ≠ [] ∧ p.length ≤ 8 ∧ ∀ c ∈ p, c ∈ l := by
  induction l using parts_ind with
  | h0 => rw [parts_nil]; simp
  | h1 l hl ih =>
    rw [parts_cons hl]
    have := List.length_pos_iff.2 hl
    intro p hp
    rcases List.mem_cons.1 hp with rfl | hp
    · refine ⟨?_, by simp; omega, fun c hc => List.mem_of_mem_take hc⟩
      intro e
      have := congrArg List.length e
      rw [List.length_take, List.length_nil] at this
      omega
    · obtain ⟨h1, h2, h3⟩ := ih p hp
      exact ⟨h1, h2, fun c hc => List.mem_of_mem_drop (h3 c hc)⟩
/-- The error of the first part that has one. -/
def partE : List (List Cel) → Int
  | [] => 0
  | p :: ps => if errB p = 0 then partE ps else errB p
theorem partE_zero {ps : List (List Cel)} : partE ps = 0 ↔ ∀ p ∈ ps, errB p = 0 := by
  induction ps with
  | nil => simp [partE]
  | cons p ps ih =>
    unfold partE
    by_cases h : errB p = 0
    · rw [if_pos h, ih]; simp [h]
    · rw [if_neg h]; simp [h]
/-- What is wrong with a list: the error's number, or 0. -/
def errT (l : List Cel) : Int := if 2000 < l.length then 71 else if l.length = 0 then 1 else if partE (parts l) = 0 then (if rising l = true then 0 else 40) else partE (parts l)
theorem errT_zero {l : List Cel} : errT l = 0 ↔ l.length ≤ 2000 ∧ l ≠ [] ∧ (∀ p ∈ parts l, errB p = 0) ∧ rising l = true := by
  unfold errT
  constructor
  · intro h
    split at h
    · cases h
    rename_i h1
    split at h
    · cases h
    rename_i h2
    split at h
    · rename_i h3
      split at h
      · rename_i h4
        exact ⟨by omega, by rintro rfl; exact h2 rfl, partE_zero.1 h3, h4⟩
      · cases h
    · rename_i h3
      exact absurd h h3
  · rintro ⟨h1, h2, h3, h4⟩
    have := List.length_pos_iff.2 h2
    rw [if_neg (by omega), if_neg (by omega), if_pos (partE_zero.2 h3), if_pos h4]
theorem errB_val (l : List Cel) : errB l = 0 ∨ errB l = 1 ∨ errB l = 40 ∨ errB l = 71 := by
  unfold errB
  split
  · simp
  · split
    · simp
    · split <;> simp

/-- So many bytes of a number, the lowest one first. -/
def lowN (n : Nat) : Nat → List UInt8
  | 0 => []
  | k + 1 => lowN n k ++ [UInt8.ofNat (n / 256 ^ k)]
theorem lowN_length (n k : Nat) : (lowN n k).length = k := by
  induction k with
  | zero => rfl
  | succ k ih => simp [lowN, ih]
theorem lowV_lowN (n k : Nat) : lowV (lowN n k) = n % 256 ^ k := by
  induction k with
  | zero => simp [lowN, lowV, Nat.mod_one]
  | succ k ih =>
    rw [lowN, lowV_snoc, ih, lowN_length, Nat.pow_succ, Nat.mod_mul]
    congr 2

/-- Its blocks, each with its sum. -/
def texts (l : List Cel) : List (List UInt8) := (parts l).map fun p => put (blk p)
def idx (ts : List (List UInt8)) : List UInt8 := put (lowN ts.length 2 ++ (ts.map fun t => lowN t.length 4).flatten)
def rowsOf (l : List Cel) : List (List UInt8) := Lib.compact (l.map (·.row))
def filt (l : List Cel) : List UInt8 := makeL (rowsOf l) 10
def ftx (a b c s : Nat) : List UInt8 := put (lowN a 4 ++ lowN b 4 ++ lowN c 4 ++ lowN s 8)
def allB (l : List Cel) : List UInt8 := (texts l).flatten
/-- The file of these cells. -/
def tbl (l : List Cel) (s : Nat) : List UInt8 := allB l ++ idx (texts l) ++ put (filt l) ++ ftx (allB l).length (idx (texts l)).length (put (filt l)).length s
theorem blk_len8 (p : List Cel) (he : errB p = 0) (h8 : p.length ≤ 8) : (blk p).length ≤ 2401 := by
  obtain ⟨h1, h2, -⟩ := errB_zero.1 he
  have h : ∀ (l : List Cel) (p : Nat) (last : List UInt8), (∀ c ∈ l, mayB c = true) → (entsFrom p last l).length ≤ 300 * l.length := by
    intro l
    induction l with
    | nil => intro p last _; simp [entsFrom]
    | cons c t ih =>
      intro p last hm
      have a := ent_len (lend p last) c (hm c (by simp))
      have b := ih (p + 1) (key c) (fun d hd => hm d (by simp [hd]))
      simp only [entsFrom, List.length_append, List.length_cons]
      omega
  have := h p 0 [] h2
  simp only [blk, List.length_cons]
  omega
theorem texts_each {l : List Cel} (h : ∀ p ∈ parts l, errB p = 0) : ∀ t ∈ texts l, t.length ≤ 2407 := by
  intro t ht
  obtain ⟨p, hp, rfl⟩ := List.mem_map.1 ht
  have := blk_len8 p (h p hp) (parts_each l p hp).2.1
  rw [put_length]
  omega
theorem flat_le {ts : List (List UInt8)} {m : Nat} (h : ∀ t ∈ ts, t.length ≤ m) : ts.flatten.length ≤ m * ts.length := by
  induction ts with
  | nil => simp
  | cons t ts ih =>
    have a := h t (by simp)
    have b := ih (fun x hx => h x (by simp [hx]))
    simp only [List.flatten_cons, List.length_append, List.length_cons, Nat.mul_add]
    omega
theorem texts_len (l : List Cel) : (texts l).length = (l.length + 7) / 8 := by rw [texts, List.length_map, parts_len]
theorem allB_len {l : List Cel} (he : errT l = 0) : (allB l).length ≤ 301 * (l.length + 7) := by
  obtain ⟨h1, h2, h3, -⟩ := errT_zero.1 he
  have := flat_le (texts_each h3)
  rw [texts_len] at this
  unfold allB
  omega
theorem idx_len (ts : List (List UInt8)) : (idx ts).length = 8 + 4 * ts.length := by
  have h : ∀ ts : List (List UInt8), ((ts.map fun t => lowN t.length 4).flatten).length = 4 * ts.length := by
    intro ts
    induction ts with
    | nil => rfl
    | cons t ts ih => simp only [List.map_cons, List.flatten_cons, List.length_append, List.length_cons, ih, lowN_length]; omega
  rw [idx, put_length, List.length_append, h, lowN_length]
  omega
theorem ftx_len (a b c s : Nat) : (ftx a b c s).length = 26 := by
  rw [ftx, put_length]
  simp [lowN_length]
theorem compact_le {α : Type} [Inhabited α] [DecidableEq α] (zs : List α) : (Lib.compact zs).length ≤ zs.length := Lib.compact_length_le zs
theorem filt_len (l : List Cel) (h : l.length ≤ 2000) : (put (filt l)).length ≤ 16006 ∧ (filt l).length ≤ 16000 := by
  have h1 := compact_le (l.map (·.row))
  rw [List.length_map] at h1
  have h2 := (sizeL_le (rowsOf l).length 10 (by unfold rowsOf; omega) (by omega)).2
  rw [put_length, filt, makeL_length]
  omega
theorem tbl_len {l : List Cel} (s : Nat) (he : errT l = 0) : 26 ≤ (tbl l s).length ∧ (tbl l s).length ≤ 301 * (l.length + 7) + 4 * l.length + 17000 := by
  have h1 := allB_len he
  obtain ⟨h2, -⟩ := errT_zero.1 he
  have h3 := (filt_len l h2).1
  simp only [tbl, List.length_append, idx_len, ftx_len, texts_len]
  omega

/-- What the last 26 bytes tell. -/
def footB (s : List UInt8) : List UInt8 × Nat × Nat := getV (s.drop (s.length - 26))
def fA (s : List UInt8) : Nat := lowV ((footB s).1.take 4)
def fB (s : List UInt8) : Nat := lowV (((footB s).1.drop 4).take 4)
def fC (s : List UInt8) : Nat := lowV (((footB s).1.drop 8).take 4)
def fS (s : List UInt8) : Nat := lowV ((footB s).1.drop 12)
/-- The cells of blocks, one behind the other. -/
def cellsO : List (List UInt8) → Option (List Cel)
  | [] => some []
  | t :: ts => match parseO t with
    | none => none
    | some p => (cellsO ts).map (p ++ ·)
def buildT (l : List Cel) (s : Nat) : List UInt8 := if errT l = 0 then tbl l s else []
/-- The cells and the sequence of a file. -/
def openO (s : List UInt8) : Option (List Cel × Nat) :=
  if s.length < 26 ∨ (footB s).2.2 ≠ 0 ∨ (footB s).2.1 < 26 ∨ s.length < fA s then none
  else match cellsO (allV (s.take (fA s))) with
    | none => none
    | some l => if buildT l (fS s) = s then some (l, fS s) else none
def openE (s : List UInt8) : Int := if s.length < 26 ∨ (footB s).2.2 ≠ 0 then 20 else if (openO s).isSome then 0 else 50
theorem cellsO_ok {ts : List (List UInt8)} {l : List Cel} (h : cellsO ts = some l) : ∀ c ∈ l, c.ok := by
  induction ts generalizing l with
  | nil => simp [cellsO] at h; subst h; simp
  | cons t ts ih =>
    unfold cellsO at h
    cases hp : parseO t with
    | none => rw [hp] at h; cases h
    | some p =>
      rw [hp] at h
      cases hc : cellsO ts with
      | none => rw [hc] at h; cases h
      | some m =>
        rw [hc] at h
        simp only [Option.map_some, Option.some.injEq] at h
        subst h
        intro c hm
        rcases List.mem_append.1 hm with hm | hm
        · exact (parseO_some hp).2.1 c hm
        · exact ih hc c hm
theorem cellsO_blks {ps : List (List Cel)} (he : ∀ p ∈ ps, errB p = 0) (hok : ∀ p ∈ ps, ∀ c ∈ p, c.ok) : cellsO (ps.map blk) = some ps.flatten := by
  induction ps with
  | nil => rfl
  | cons p ps ih =>
    rw [List.map_cons, cellsO, parseO_blk p (he p (by simp)) (hok p (by simp))]
    simp only
    rw [ih (fun q hq => he q (by simp [hq])) (fun q hq => hok q (by simp [hq]))]
    rfl
theorem allV_puts {ts : List (List UInt8)} (h : ∀ t ∈ ts, t.length ≤ 65535) : allV ((ts.map put).flatten) = ts := by
  induction ts with
  | nil => exact allV_no (by decide)
  | cons t ts ih =>
    have hg := getV_put t ((ts.map put).flatten) (h t (by simp))
    rw [List.map_cons, List.flatten_cons, allV_yes (by rw [hg]), hg]
    simp only
    rw [show 6 + t.length = (put t).length by rw [put_length], List.drop_left, ih (fun x hx => h x (by simp [hx]))]
theorem openO_some {s : List UInt8} {l : List Cel} {q : Nat} (h : openO s = some (l, q)) : errT l = 0 ∧ (∀ c ∈ l, c.ok) ∧ tbl l q = s ∧ q = fS s ∧ cellsO (allV (s.take (fA s))) = some l ∧ 26 ≤ s.length ∧ (footB s).2.2 = 0 ∧ 26 ≤ (footB s).2.1 ∧ fA s ≤ s.length := by
  unfold openO at h
  split at h
  · cases h
  rename_i h1
  have h26 : 26 ≤ s.length := by omega
  split at h
  · cases h
  rename_i m hm
  split at h
  · rename_i hb
    simp only [Option.some.injEq, Prod.mk.injEq] at h
    obtain ⟨rfl, rfl⟩ := h
    unfold buildT at hb
    split at hb
    · rename_i he
      exact ⟨he, cellsO_ok hm, hb, rfl, hm, h26, by omega, by omega, by omega⟩
    · rw [← hb] at h26
      simp at h26
  · cases h
theorem openO_E {s : List UInt8} : openE s = 0 ↔ (openO s).isSome = true := by
  unfold openE
  constructor
  · intro h
    split at h
    · cases h
    · split at h
      · assumption
      · cases h
  · intro h
    obtain ⟨⟨l, q⟩, hx⟩ := Option.isSome_iff_exists.1 h
    obtain ⟨-, -, -, -, -, h6, h7, -⟩ := openO_some hx
    rw [if_neg (by omega), if_pos h]
theorem foot_tbl (l : List Cel) (s : Nat) :
    (tbl l s).drop ((tbl l s).length - 26) = ftx (allB l).length (idx (texts l)).length (put (filt l)).length s ∧ footB (tbl l s) = (lowN (allB l).length 4 ++ lowN (idx (texts l)).length 4 ++ lowN (put (filt l)).length 4 ++ lowN s 8, 26, 0) := by
  have h1 : (tbl l s).drop ((tbl l s).length - 26) = ftx (allB l).length (idx (texts l)).length (put (filt l)).length s := by
    unfold tbl
    rw [List.drop_left' (by simp only [List.length_append, ftx_len]; omega)]
  refine ⟨h1, ?_⟩
  unfold footB
  rw [h1, ftx]
  have := getV_put (lowN (allB l).length 4 ++ lowN (idx (texts l)).length 4 ++ lowN (put (filt l)).length 4 ++ lowN s 8) [] (by simp [lowN_length])
  rw [List.append_nil] at this
  rw [this]
  simp [lowN_length]
theorem fields (a b c s : Nat) : (lowN a 4 ++ lowN b 4 ++ lowN c 4 ++ lowN s 8).take 4 = lowN a 4 ∧ ((lowN a 4 ++ lowN b 4 ++ lowN c 4 ++ lowN s 8).drop 4).take 4 = lowN b 4 ∧ ((lowN a 4 ++ lowN b 4 ++ lowN c 4 ++ lowN s 8).drop 8).take 4 = lowN c 4 ∧ (lowN a 4 ++ lowN b 4 ++ lowN c 4 ++ lowN s 8).drop 12 = lowN s 8 := by
  have ha := lowN_length a 4
  have hb := lowN_length b 4
  have hc := lowN_length c 4
  generalize lowN a 4 = x at *
  generalize lowN b 4 = y at *
  generalize lowN c 4 = z at *
  generalize lowN s 8 = u at *
  refine ⟨?_, ?_, ?_, ?_⟩
  · rw [List.append_assoc, List.append_assoc, List.take_left' ha]
  · rw [List.append_assoc, List.append_assoc, List.drop_left' ha, List.take_left' hb]
  · rw [List.append_assoc (x ++ y), List.drop_left' (by simp; omega), List.take_left' hc]
  · rw [List.drop_left' (by simp; omega)]
theorem foots_tbl (l : List Cel) (s : Nat) (hs : s < 18446744073709551616) (he : errT l = 0) : fA (tbl l s) = (allB l).length ∧ fB (tbl l s) = (idx (texts l)).length ∧ fC (tbl l s) = (put (filt l)).length ∧ fS (tbl l s) = s := by
  have h1 := (foot_tbl l s).2
  have h2 := allB_len he
  obtain ⟨h3, -⟩ := errT_zero.1 he
  have h4 := (filt_len l h3).1
  have h5 := idx_len (texts l)
  rw [texts_len] at h5
  obtain ⟨e1, e2, e3, e4⟩ := fields (allB l).length (idx (texts l)).length (put (filt l)).length s
  unfold fA fB fC fS
  rw [h1]
  simp only
  rw [e1, e2, e3, e4, lowV_lowN, lowV_lowN, lowV_lowN, lowV_lowN]
  refine ⟨?_, ?_, ?_, ?_⟩ <;> (apply Nat.mod_eq_of_lt; omega)
/-- What was built is opened. -/
theorem openO_tbl (l : List Cel) (s : Nat) (hs : s < 18446744073709551616) (he : errT l = 0) (hok : ∀ c ∈ l, c.ok) : openO (tbl l s) = some (l, s) := by
  obtain ⟨f1, f2, f3, f4⟩ := foots_tbl l s hs he
  have hf := (foot_tbl l s).2
  have hl := tbl_len s he
  obtain ⟨-, -, h3, -⟩ := errT_zero.1 he
  have htk : (tbl l s).take (allB l).length = allB l := by
    unfold tbl
    rw [List.append_assoc, List.append_assoc, List.take_left' rfl]
  have hal : (allB l).length ≤ (tbl l s).length := by rw [tbl]; simp only [List.length_append]; omega
  unfold openO
  rw [f1, hf, if_neg (by simp only; omega), htk]
  have h4 : allV (allB l) = (parts l).map blk := by
    have := allV_puts (ts := (parts l).map blk) (by
      intro t ht
      obtain ⟨p, hp, rfl⟩ := List.mem_map.1 ht
      have := blk_len8 p (h3 p hp) (parts_each l p hp).2.1
      omega)
    rw [List.map_map] at this
    exact this
  rw [h4, cellsO_blks h3 (fun p hp c hc => hok c ((parts_each l p hp).2.2 c hc)), parts_flat]
  simp only
  rw [f4, buildT, if_pos he, if_pos rfl]
end Go.Proofs.YtlmlopdakbbbjaaGreatDoor
