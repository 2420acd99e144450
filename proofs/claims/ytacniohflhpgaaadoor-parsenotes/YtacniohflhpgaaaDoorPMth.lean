/-
  Lines, words, numbers and cells as plain lists; what Split, ParseUint and FormatUint tell, in these words. No program in it, no conditions but those written.
-/
import Derived.Lib.SplitLaws
import Derived.Lib.ParseIntB
import Derived.Lib.ItoaNum
namespace Go.Proofs.YtacniohflhpgaaaDoor

/-- A cell: the plain thing. -/
structure Cel where
  row : List UInt8
  col : List UInt8
  ts : Nat
  seq : Nat
  del : Bool
  val : List UInt8

/-- Parts between bytes c, with what stands ahead of the first. -/
def splA (c : UInt8) : List UInt8 → List UInt8 → List (List UInt8)
  | acc, [] => [acc]
  | acc, b :: l => if b = c then acc :: splA c [] l else splA c (acc ++ [b]) l
/-- Parts between bytes c. -/
def spl (c : UInt8) (l : List UInt8) : List (List UInt8) := splA c [] l

/-- The first part has more ahead. -/
def ahead (a : List UInt8) : List (List UInt8) → List (List UInt8)
  | [] => [a]
  | p :: r => (a ++ p) :: r
theorem splA_ahead (c : UInt8) (l : List UInt8) : ∀ acc, splA c acc l = ahead acc (splA c [] l) := by
  induction l with
  | nil => intro acc; simp [splA, ahead]
  | cons b l ih =>
    intro acc
    unfold splA
    split
    · simp [ahead]
    · rw [ih (acc ++ [b]), ih ([] ++ [b])]
      cases h : splA c [] l <;> simp [ahead]
theorem spl_nil (c : UInt8) : spl c [] = [[]] := rfl
theorem spl_eq (c : UInt8) (l : List UInt8) : spl c (c :: l) = [] :: spl c l := by simp [spl, splA]
theorem spl_neq {b c : UInt8} (h : b ≠ c) (l : List UInt8) : spl c (b :: l) = ahead [b] (spl c l) := by
  unfold spl
  rw [splA, if_neg h, splA_ahead]
  rfl
theorem splitK_cons {b c : UInt8} (h : b ≠ c) (l : List UInt8) (k : Nat) : Lib.splitK [c] 0 k (b :: l) = ahead [b] (Lib.splitK [c] 0 k l) := by
  have hp : ([c] : List UInt8).isPrefixOf (b :: l) = false := by simp [List.isPrefixOf, Ne.symm h]
  have hix : Lib.index (b :: l) [c] = if Lib.index l [c] == -1 then -1 else Lib.index l [c] + 1 := by rw [Lib.index, hp]; simp
  cases k with
  | zero => rfl
  | succ k =>
    unfold Lib.splitK
    by_cases hm : Lib.index l [c] = -1
    · rw [hix]
      simp [hm, ahead]
    · have hge := Lib.index_ge l [c]
      obtain ⟨j, hj⟩ : ∃ j : Nat, Lib.index l [c] = j := ⟨(Lib.index l [c]).toNat, by omega⟩
      have h1 : ¬ (Lib.index l [c] == -1) = true := fun e => hm (beq_iff_eq.1 e)
      rw [hix, if_neg h1, if_neg h1, hj]
      have h2 : ¬ (((j : Int) + 1) == -1) = true := fun e => by have := beq_iff_eq.1 e; omega
      rw [if_neg h2]
      have h3 : ((j : Int) + 1).toNat = j + 1 := by omega
      rw [h3]
      simp [ahead]
theorem split_spl (c : UInt8) : ∀ s : List UInt8, Lib.splitK [c] 0 (Lib.count s [c]) s = spl c s
  | [] => by rw [Lib.count_miss (by simp [Lib.index])]; rfl
  | b :: l => by
    by_cases h : b = c
    · subst h
      have hix : Lib.index (b :: l) [b] = ((0 : Nat) : Int) := by rw [Lib.index]; simp [List.isPrefixOf]
      rw [Lib.count_cons_eq, Nat.add_comm, Lib.splitK, hix, spl_eq, ← split_spl b l]
      simp
    · rw [Lib.count_cons_ne b c l h, splitK_cons h, split_spl c l, spl_neq h]

theorem spl_ne (c : UInt8) (l : List UInt8) : spl c l ≠ [] := by
  cases l with
  | nil => simp [spl, splA]
  | cons b l =>
    by_cases h : b = c
    · subst h; rw [spl_eq]; simp
    · rw [spl_neq h]; unfold ahead; split <;> simp
theorem spl_app (c : UInt8) (a l : List UInt8) (h : c ∉ a) : spl c (a ++ c :: l) = a :: spl c l := by
  induction a with
  | nil => exact spl_eq c l
  | cons b a ih =>
    have h1 : b ≠ c := fun e => h (by rw [e]; simp)
    have h2 : c ∉ a := fun e => h (by simp [e])
    rw [List.cons_append, spl_neq h1, ih h2]
    rfl
theorem spl_none (c : UInt8) (a : List UInt8) (h : c ∉ a) : spl c a = [a] := by
  induction a with
  | nil => rfl
  | cons b a ih =>
    have h1 : b ≠ c := fun e => h (by rw [e]; simp)
    have h2 : c ∉ a := fun e => h (by simp [e])
    rw [spl_neq h1, ih h2]
    rfl
theorem splA_mem (c : UInt8) (l : List UInt8) : ∀ acc, c ∉ acc → ∀ p ∈ splA c acc l, c ∉ p ∧ p.length ≤ acc.length + l.length := by
  induction l with
  | nil => intro acc h p hp; simp [splA] at hp; subst hp; exact ⟨h, by simp⟩
  | cons b l ih =>
    intro acc h p hp
    unfold splA at hp
    split at hp
    · rcases List.mem_cons.1 hp with rfl | hp
      · exact ⟨h, by simp⟩
      · have := ih [] (by simp) p hp
        refine ⟨this.1, ?_⟩
        have := this.2
        simp at this ⊢
        omega
    · rename_i hb
      have := ih (acc ++ [b]) (by simp [h, Ne.symm hb]) p hp
      refine ⟨this.1, ?_⟩
      have := this.2
      simp at this ⊢
      omega
theorem spl_mem (c : UInt8) (l p : List UInt8) (h : p ∈ spl c l) : c ∉ p ∧ p.length ≤ l.length := by
  have := splA_mem c l [] (by simp) p h
  simpa using this
theorem splA_len (c : UInt8) (l : List UInt8) : ∀ acc, (splA c acc l).length ≤ l.length + 1 := by
  induction l with
  | nil => intro acc; simp [splA]
  | cons b l ih =>
    intro acc
    unfold splA
    split
    · have := ih []; simp; omega
    · have := ih (acc ++ [b]); simp; omega

/-- Each byte can be seen. -/
def seen (l : List UInt8) : Bool := l.all fun b => decide (32 < b.toNat) && decide (b.toNat < 127)
def wordB (l : List UInt8) : Bool := !l.isEmpty && seen l
def nameB (l : List UInt8) : Bool := wordB l && decide (l.length ≤ 40)
def valB (l : List UInt8) : Bool := l.isEmpty || (wordB l && decide (l.length ≤ 100))
def nothing (l : List UInt8) : Bool := l.isEmpty || decide (l.head? = some 35)

def digB (b : UInt8) : Bool := decide (48 ≤ b.toNat) && decide (b.toNat ≤ 57)
def num (acc : Nat) (l : List UInt8) : Nat := l.foldl (fun a b => a * 10 + (b.toNat - 48)) acc
theorem num_nil (acc : Nat) : num acc [] = acc := rfl
theorem num_cons (acc : Nat) (b : UInt8) (r : List UInt8) : num acc (b :: r) = num (acc * 10 + (b.toNat - 48)) r := List.foldl_cons ..
/-- The number that these digits are: 1 to 18 of them. -/
def digO (l : List UInt8) : Option Nat := if l ≠ [] ∧ l.length ≤ 18 ∧ l.all digB = true then some (num 0 l) else none

def lastO (a b : List UInt8) (n : Nat) : List UInt8 → Option Cel
  | [] => none
  | x :: v => if x = 61 then (if valB v = true then some ⟨a, b, n, 0, false, v⟩ else none) else if x = 45 ∧ v = [] then some ⟨a, b, n, 0, true, []⟩ else none
theorem lastO_cons (a b : List UInt8) (n : Nat) (x : UInt8) (v : List UInt8) : lastO a b n (x :: v) = if x = 61 then (if valB v = true then some ⟨a, b, n, 0, false, v⟩ else none) else if x = 45 ∧ v = [] then some ⟨a, b, n, 0, true, []⟩ else none := rfl
def lineW : List (List UInt8) → Option Cel
  | [a, b, c, d] => if nameB a = true ∧ nameB b = true then (match digO c with | some n => lastO a b n d | none => none) else none
  | _ => none
/-- The cell that a line tells. -/
def lineO (l : List UInt8) : Option Cel := lineW (spl 32 l)

/-- The cells of these lines, or the number of the first one that tells none; k lines stood ahead. -/
def scan : Nat → List (List UInt8) → Except Nat (List Cel)
  | _, [] => .ok []
  | k, x :: r => if nothing x = true then scan (k + 1) r else match lineO x with
    | none => .error (k + 1)
    | some c => (scan (k + 1) r).map (fun l => c :: l)
/-- What stands ahead. -/
def pre (a : List Cel) (x : Except Nat (List Cel)) : Except Nat (List Cel) := x.map (fun l => a ++ l)
theorem pre_nil (x : Except Nat (List Cel)) : pre [] x = x := by
  unfold pre; cases x <;> simp [Except.map]
theorem pre_pre (a b : List Cel) (x : Except Nat (List Cel)) : pre a (pre b x) = pre (a ++ b) x := by
  unfold pre; cases x <;> simp [Except.map]
theorem scan_nothing (k : Nat) (x : List UInt8) (r : List (List UInt8)) (h : nothing x = true) : scan k (x :: r) = scan (k + 1) r := by rw [scan, if_pos h]
theorem scan_none (k : Nat) (x : List UInt8) (r : List (List UInt8)) (h : nothing x = false) (h2 : lineO x = none) : scan k (x :: r) = .error (k + 1) := by rw [scan, if_neg (by simp [h]), h2]
theorem scan_some (k : Nat) (x : List UInt8) (r : List (List UInt8)) (c : Cel) (h : nothing x = false) (h2 : lineO x = some c) : scan k (x :: r) = pre [c] (scan (k + 1) r) := by rw [scan, if_neg (by simp [h]), h2]; rfl

/-- What Cells tells: the cells, the line, the error's number. -/
def resL : Except Nat (List Cel) → List Cel
  | .ok l => l
  | .error _ => []
def resN : Except Nat (List Cel) → Nat
  | .ok _ => 0
  | .error k => k
def resE : Except Nat (List Cel) → Nat
  | .ok _ => 0
  | .error _ => 70
def outL (s : List UInt8) : List Cel := if 4000 < s.length then [] else resL (scan 0 (spl 10 s))
def outN (s : List UInt8) : Nat := if 4000 < s.length then 0 else resN (scan 0 (spl 10 s))
def outE (s : List UInt8) : Nat := if 4000 < s.length then 71 else resE (scan 0 (spl 10 s))

/-- The lines that tell these cells. -/
def lastL (c : Cel) : List UInt8 := if c.del then [45] else 61 :: c.val
def bodyL (c : Cel) : List UInt8 := c.row ++ 32 :: (c.col ++ 32 :: (Lib.decDigits c.ts ++ 32 :: lastL c))
def lineL (c : Cel) : List UInt8 := bodyL c ++ [10]
def toldB (c : Cel) : Bool := nameB c.row && !nothing c.row && nameB c.col && decide ((Lib.decDigits c.ts).length ≤ 18) && valB c.val && !(c.del && !c.val.isEmpty) && decide (c.seq = 0)
def printL (l : List Cel) : List UInt8 := l.flatMap lineL

theorem num_app (a b : List UInt8) : ∀ acc, num acc (a ++ b) = num (num acc a) b := by
  intro acc
  exact List.foldl_append
theorem e64 : (2 : Nat) ^ 64 - 1 = 18446744073709551615 := by decide
theorem e18 : (10 : Nat) ^ 18 = 1000000000000000000 := by decide
/-- What ParseUint tells of a text that is no number. -/
abbrev noNum : Lib.NumEnd Nat := Lib.parseUintB 64 []
theorem parseM (l : List UInt8) : ∀ (acc k : Nat), acc < 10 ^ k → k + l.length ≤ 18 → Lib.parseUintM 18446744073709551615 acc l = if l.all digB = true then .ok (num acc l) else noNum := by
  induction l with
  | nil => intro acc k _ _; simp [Lib.parseUintM, num_nil]
  | cons b l ih =>
    intro acc k h1 h2
    unfold Lib.parseUintM
    by_cases hd : 48 ≤ b.toNat ∧ b.toNat ≤ 57
    · have hb : digB b = true := by simp [digB, hd]
      have hp : 10 ^ (k + 1) ≤ 10 ^ 18 := Nat.pow_le_pow_right (by decide) (by simp at h2; omega)
      have hn : acc * 10 + (b.toNat - 48) < 10 ^ (k + 1) := by rw [Nat.pow_succ]; omega
      have hn' := hn
      have hk : 10 ^ k ≤ 10 ^ 18 := Nat.pow_le_pow_right (by decide) (by simp at h2; omega)
      rw [e18] at hp hk
      generalize 10 ^ (k + 1) = p1 at hp hn
      generalize 10 ^ k = p0 at h1 hk
      rw [if_pos hd, if_neg (by omega), if_neg (by omega), ih _ (k + 1) hn' (by simp at h2; omega)]
      simp [hb, num_cons]
    · have hb : digB b = false := by simp [digB]; omega
      rw [if_neg hd]
      simp only [List.all_cons, hb, Bool.false_and]
      rfl
theorem digO_parse (l : List UInt8) (h : l.length ≤ 18) : digO l = match Lib.parseUintB 64 l with | .ok u => some u | _ => none := by
  unfold digO Lib.parseUintB
  by_cases h0 : l = []
  · subst h0; simp
  · rw [if_neg h0, e64, parseM l 0 0 (by decide) (by omega)]
    by_cases hd : l.all digB = true
    · rw [if_pos ⟨h0, h, hd⟩, if_pos hd]
    · rw [if_neg (fun x => hd x.2.2), if_neg hd]
      rfl
theorem digO_long (l : List UInt8) (h : 18 < l.length) : digO l = none := by
  unfold digO
  rw [if_neg (by omega)]

theorem dec_all (u : Nat) : (Lib.decDigits u).all digB = true := by
  induction u using Nat.strongRecOn with
  | _ u ih =>
    rw [Lib.decDigits]
    have hd : ∀ n, n < 10 → digB (UInt8.ofNat (48 + n)) = true := by decide
    split
    · rename_i h; simp only [List.all_cons, List.all_nil, Bool.and_true]; exact hd u h
    · rename_i h
      rw [List.all_append, ih (u / 10) (by omega)]
      simp only [List.all_cons, List.all_nil, Bool.and_true, Bool.true_and]
      exact hd _ (by omega)
theorem dec_num (u : Nat) : num 0 (Lib.decDigits u) = u := by
  induction u using Nat.strongRecOn with
  | _ u ih =>
    rw [Lib.decDigits]
    have hd : ∀ n, n < 10 → (UInt8.ofNat (48 + n)).toNat - 48 = n := by decide
    split
    · rename_i h; simp only [num_cons, num_nil, Nat.zero_mul, Nat.zero_add]; exact hd u h
    · rename_i h
      rw [num_app, ih (u / 10) (by omega)]
      simp only [num_cons, num_nil]
      rw [hd _ (by omega)]
      omega
theorem dec_ne (u : Nat) : Lib.decDigits u ≠ [] := by
  rw [Lib.decDigits]; split <;> simp
theorem digO_dec (u : Nat) (h : (Lib.decDigits u).length ≤ 18) : digO (Lib.decDigits u) = some u := by
  unfold digO
  rw [if_pos ⟨dec_ne u, h, dec_all u⟩, dec_num]
theorem digO_some {l : List UInt8} {n : Nat} (h : digO l = some n) : l.length ≤ 18 := by
  unfold digO at h
  split at h
  · rename_i x; exact x.2.1
  · cases h

theorem seen_not {l : List UInt8} (h : seen l = true) (c : UInt8) (hc : c.toNat ≤ 32) : c ∉ l := by
  intro hm
  have := List.all_eq_true.1 h c hm
  simp at this
  omega
theorem word_seen {l : List UInt8} (h : wordB l = true) : seen l = true := by
  simp [wordB] at h; exact h.2
theorem name_seen {l : List UInt8} (h : nameB l = true) : seen l = true := by
  simp [nameB] at h; exact word_seen h.1
theorem val_seen {l : List UInt8} (h : valB l = true) : seen l = true := by
  simp [valB] at h
  rcases h with h | h
  · subst h; rfl
  · exact word_seen h.1
theorem dec_seen (u : Nat) : seen (Lib.decDigits u) = true := by
  refine List.all_eq_true.2 fun b hb => ?_
  have := List.all_eq_true.1 (dec_all u) b hb
  simp [digB] at this
  simp
  omega
theorem last_seen {c : Cel} (h : seen c.val = true) : seen (lastL c) = true := by
  unfold lastL
  split
  · decide
  · have h' : c.val.all (fun b => decide (32 < b.toNat) && decide (b.toNat < 127)) = true := h
    unfold seen
    rw [List.all_cons, h']
    decide
theorem body_line (c : Cel) (h : toldB c = true) : lineO (bodyL c) = some c ∧ nothing (bodyL c) = false ∧ (10 : UInt8) ∉ bodyL c := by
  simp only [toldB, Bool.and_eq_true, Bool.not_eq_true', decide_eq_true_eq] at h
  obtain ⟨⟨⟨⟨⟨⟨h1, h2⟩, h3⟩, h4⟩, h5⟩, h6⟩, h7⟩ := h
  have s1 := name_seen h1
  have s3 := name_seen h3
  have s4 := dec_seen c.ts
  have s5 := last_seen (val_seen h5)
  refine ⟨?_, ?_, ?_⟩
  · unfold lineO bodyL
    rw [spl_app 32 _ _ (seen_not s1 32 (by decide)), spl_app 32 _ _ (seen_not s3 32 (by decide)), spl_app 32 _ _ (seen_not s4 32 (by decide)), spl_none 32 _ (seen_not s5 32 (by decide))]
    simp only [lineW]
    rw [if_pos ⟨h1, h3⟩, digO_dec _ h4]
    obtain ⟨row, col, ts, seq, del, val⟩ := c
    simp only at *
    subst h7
    unfold lastL
    cases del with
    | true =>
      simp at h6
      subst h6
      rfl
    | false => simp [lastO, h5]
  · have hr : c.row ≠ [] := by intro e; rw [e] at h1; simp [nameB, wordB] at h1
    obtain ⟨x, t, e⟩ := List.exists_cons_of_ne_nil hr
    unfold bodyL
    rw [e] at h2 ⊢
    simpa [nothing] using h2
  · have n1 := seen_not s1 10 (by decide)
    have n3 := seen_not s3 10 (by decide)
    have n4 := seen_not s4 10 (by decide)
    have n5 := seen_not s5 10 (by decide)
    unfold bodyL
    simp [n1, n3, n4, n5]
theorem lastO_props {a b : List UInt8} {n : Nat} {d : List UInt8} {c : Cel} (h : lastO a b n d = some c) : c.row = a ∧ c.col = b ∧ c.ts = n ∧ c.seq = 0 ∧ valB c.val = true ∧ (c.del = true → c.val = []) ∧ d = lastL c := by
  cases d with
  | nil => simp [lastO] at h
  | cons x v =>
    rw [lastO_cons] at h
    split at h
    · split at h
      · rename_i hx hv
        injection h with h
        subst h
        exact ⟨rfl, rfl, rfl, rfl, hv, (by simp), (by simp [lastL, hx])⟩
      · cases h
    · split at h
      · rename_i hx
        injection h with h
        subst h
        exact ⟨rfl, rfl, rfl, rfl, rfl, (by simp), (by simp [lastL, hx.1, hx.2])⟩
      · cases h
/-- What a line that tells a cell looks like. -/
theorem line_props {l : List UInt8} {c : Cel} (h : lineO l = some c) : ∃ d, spl 32 l = [c.row, c.col, d, lastL c] ∧ digO d = some c.ts ∧ nameB c.row = true ∧ nameB c.col = true ∧ valB c.val = true ∧ c.seq = 0 ∧ (c.del = true → c.val = []) := by
  unfold lineO lineW at h
  split at h
  · rename_i a b d e hs
    split at h
    · rename_i hn
      split at h
      · rename_i n hd
        obtain ⟨p1, p2, p3, p4, p5, p6, p7⟩ := lastO_props h
        subst p1 p2 p3 p7
        exact ⟨d, hs, hd, hn.1, hn.2, p5, p4, p6⟩
      · cases h
    · cases h
  · cases h
/-- What the reference's Print lays as a cell's line. -/
def rbody (c : Cel) : List UInt8 := c.row ++ 32 :: (c.col ++ 32 :: (Lib.decDigits c.ts ++ 32 :: (if c.del then 45 :: c.val else 61 :: c.val)))
theorem rbody_told (c : Cel) (h : toldB c = true) : rbody c = bodyL c := by
  simp only [toldB, Bool.and_eq_true, Bool.not_eq_true', decide_eq_true_eq] at h
  obtain ⟨⟨⟨⟨⟨⟨h1, h2⟩, h3⟩, h4⟩, h5⟩, h6⟩, h7⟩ := h
  unfold rbody bodyL lastL
  cases hd : c.del with
  | true => rw [hd] at h6; simp at h6; simp [h6]
  | false => simp
theorem rbody_not (c : Cel) (h : lineO (rbody c) = some c) (h2 : c.row.head? ≠ some 35) : toldB c = true := by
  obtain ⟨d, hs, hd, n1, n2, hv, hq, hdel⟩ := line_props h
  have s1 := name_seen n1
  have s3 := name_seen n2
  have s4 := dec_seen c.ts
  have e : spl 32 (rbody c) = c.row :: c.col :: Lib.decDigits c.ts :: spl 32 (if c.del then 45 :: c.val else 61 :: c.val) := by
    unfold rbody
    rw [spl_app 32 _ _ (seen_not s1 32 (by decide)), spl_app 32 _ _ (seen_not s3 32 (by decide)), spl_app 32 _ _ (seen_not s4 32 (by decide))]
  rw [hs] at e
  injection e with _ e
  injection e with _ e
  injection e with e _
  subst e
  have hl := digO_some hd
  have hne : c.row ≠ [] := by intro e; rw [e] at n1; simp [nameB, wordB] at n1
  have hnot : nothing c.row = false := by
    obtain ⟨x, t, e⟩ := List.exists_cons_of_ne_nil hne
    rw [e] at h2 ⊢
    simpa [nothing] using h2
  simp only [toldB, Bool.and_eq_true, Bool.not_eq_true', decide_eq_true_eq]
  refine ⟨⟨⟨⟨⟨⟨n1, hnot⟩, n2⟩, hl⟩, hv⟩, ?_⟩, hq⟩
  cases hc : c.del with
  | true => simp [hdel hc]
  | false => simp
end Go.Proofs.YtacniohflhpgaaaDoor
