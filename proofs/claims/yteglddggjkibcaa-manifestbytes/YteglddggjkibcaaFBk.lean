/-
  What was written is read back: the code's reader and the document's own, over the bytes of an edit. No program here.
-/
import Derived.Test.YteglddggjkibcaaFRr
namespace Go.Proofs.Yteglddggjkibcaa
open Go.RowKit Go.Shelf

theorem lowV_lowN (n k : Nat) : lowV (lowN n k) = n % 256 ^ k := by
  induction k with
  | zero => simp [lowN, lowV, Nat.mod_one]
  | succ k ih =>
    have h : n % 256 ^ (k + 1) = n % 256 ^ k + 256 ^ k * (n / 256 ^ k % 256) := Nat.mod_pow_succ
    rw [lowN, lowV_snoc, ih, lowN_length, h]
    rfl
theorem take_low (n k : Nat) (r : List UInt8) : (lowN n k ++ r).take k = lowN n k := List.take_left' (lowN_length n k)
theorem drop_low (n k : Nat) (r : List UInt8) : (lowN n k ++ r).drop k = r := List.drop_left' (lowN_length n k)
theorem low_back {n k : Nat} (r : List UInt8) (h : n < 256 ^ k) : lowV ((lowN n k ++ r).take k) = n := by
  rw [take_low, lowV_lowN, Nat.mod_eq_of_lt h]
theorem first_low {n : Nat} (r : List UInt8) (h : n ≤ 255) : firstF (lowN n 1 ++ r) = ((n : Int), r) := by
  rw [low1]
  simp only [List.singleton_append, firstF, UInt8.toNat_ofNat', Nat.mod_eq_of_lt (show n < 2 ^ 8 by omega)]
theorem short_app (x r : List UInt8) : short x ++ r = lowN x.length 1 ++ (x ++ r) := by rw [short, List.append_assoc]
theorem rdT_short (x r : List UInt8) (hx : x.length ≤ 255) : rdT (short x ++ r) = (x, r) := by
  have h := low_back (k := 1) (x ++ r) (show x.length < 256 ^ 1 by omega)
  rw [short_app, rdT, h, drop_low, List.take_left' rfl, List.drop_left' rfl]
theorem taken_short (x r : List UInt8) (hx : x.length ≤ 255) : takenF (short x ++ r) = (x, r, true) := by
  have h : (UInt8.ofNat x.length).toNat = x.length := by rw [UInt8.toNat_ofNat', Nat.mod_eq_of_lt (show x.length < 2 ^ 8 by omega)]
  rw [short_app, low1]
  simp only [List.singleton_append, takenF, h]
  rw [if_neg (by simp), List.take_left' rfl, List.drop_left' rfl]
theorem file_app (x : Itm) (r : List UInt8) : fileB x ++ r = lowN x.lev.toNat 1 ++ (short x.name ++ (short x.low ++ (short x.high ++ (lowN x.many.toNat 2 ++ r)))) := by
  simp only [fileB, List.append_assoc]
theorem itm_back {x : Itm} (h : mayF x = true) : (⟨((x.lev.toNat : Nat) : Int), x.name, x.low, x.high, ((x.many.toNat : Nat) : Int)⟩ : Itm) = x := by
  obtain ⟨_, _, _, h0, _, h1, _⟩ := may_len h
  rw [Int.toNat_of_nonneg h0, Int.toNat_of_nonneg (by omega)]
theorem rdF_file {x : Itm} (h : mayF x = true) (r : List UInt8) : rdF (fileB x ++ r) = (x, r) := by
  obtain ⟨h1, h2, h3, h4, h5, h6, h7⟩ := may_len h
  have e1 := low_back (n := x.lev.toNat) (k := 1) (short x.name ++ (short x.low ++ (short x.high ++ (lowN x.many.toNat 2 ++ r)))) (by omega)
  have e2 := low_back (n := x.many.toNat) (k := 2) r (by omega)
  rw [file_app]
  simp only [rdF, drop_low, e1, e2, rdT_short _ _ (show x.name.length ≤ 255 by omega), rdT_short _ _ (show x.low.length ≤ 255 by omega), rdT_short _ _ (show x.high.length ≤ 255 by omega), itm_back h]
theorem rrF_file {x : Itm} (h : mayF x = true) (r : List UInt8) : rrF (fileB x ++ r) = some (x, r) := by
  obtain ⟨h1, h2, h3, h4, h5, h6, h7⟩ := may_len h
  have e1 := first_low (n := x.lev.toNat) (short x.name ++ (short x.low ++ (short x.high ++ (lowN x.many.toNat 2 ++ r)))) (by omega)
  have e2 := low_back (n := x.many.toNat) (k := 2) r (by omega)
  rw [file_app]
  simp only [rrF, drop_low, e1, e2, taken_short _ _ (show x.name.length ≤ 255 by omega), taken_short _ _ (show x.low.length ≤ 255 by omega), taken_short _ _ (show x.high.length ≤ 255 by omega), itm_back h]
  rw [if_pos ⟨trivial, trivial, trivial, by simp [lowN_length]⟩]
theorem flat_drop {α : Type} {f : α → List UInt8} {l : List α} {k : Nat} (hk : k < l.length) : (l.drop k).flatMap f = f l[k] ++ (l.drop (k + 1)).flatMap f := by
  rw [List.drop_eq_getElem_cons hk, List.flatMap_cons]
theorem rdFs_many (l : List Itm) (h : ∀ x ∈ l, mayF x = true) (r : List UInt8) : ∀ k, k ≤ l.length → rdFs k (l.flatMap fileB ++ r) = (l.take k, (l.drop k).flatMap fileB ++ r)
  | 0, _ => by simp [rdFs]
  | k + 1, hk => by
    have ih := rdFs_many l h r k (by omega)
    have hx := h l[k] (List.getElem_mem _)
    simp only [rdFs, ih]
    rw [flat_drop (by omega), List.append_assoc, rdF_file hx, ← List.take_succ_eq_append_getElem (by omega)]
theorem rrFs_many (l : List Itm) (h : ∀ x ∈ l, mayF x = true) (r : List UInt8) : ∀ k, k ≤ l.length → rrFs k (l.flatMap fileB ++ r) = some (l.take k, (l.drop k).flatMap fileB ++ r)
  | 0, _ => by simp [rrFs]
  | k + 1, hk => by
    have ih := rrFs_many l h r k (by omega)
    have hx := h l[k] (List.getElem_mem _)
    rw [rrFs_step ih, flat_drop (by omega), List.append_assoc, rrF_file hx, Option.map_some, ← List.take_succ_eq_append_getElem (by omega)]
theorem rdTs_many (l : List (List UInt8)) (h : ∀ x ∈ l, x.length ≤ 255) (r : List UInt8) : ∀ k, k ≤ l.length → rdTs k (l.flatMap short ++ r) = (l.take k, (l.drop k).flatMap short ++ r)
  | 0, _ => by simp [rdTs]
  | k + 1, hk => by
    have ih := rdTs_many l h r k (by omega)
    have hx := h l[k] (List.getElem_mem _)
    simp only [rdTs, ih]
    rw [flat_drop (by omega), List.append_assoc, rdT_short _ _ hx, ← List.take_succ_eq_append_getElem (by omega)]
theorem rrTs_many (l : List (List UInt8)) (h : ∀ x ∈ l, x.length ≤ 255) (r : List UInt8) : ∀ k, k ≤ l.length → rrTs k (l.flatMap short ++ r) = some (l.take k, (l.drop k).flatMap short ++ r)
  | 0, _ => by simp [rrTs]
  | k + 1, hk => by
    have ih := rrTs_many l h r k (by omega)
    have hx := h l[k] (List.getElem_mem _)
    rw [rrTs_step ih, flat_drop (by omega), List.append_assoc, rrT, taken_short _ _ hx, if_pos rfl, Option.map_some, ← List.take_succ_eq_append_getElem (by omega)]
/-- An edit that Encode takes. -/
structure EdOk (e : Ed) : Prop where
  add : ∀ x ∈ e.add, mayF x = true
  del : ∀ x ∈ e.del, x.length ≤ 255
  l1 : e.add.length ≤ 255
  l2 : e.del.length ≤ 255
theorem enc_ok {e : Ed} {q : List UInt8} (h : encF e = (0, q)) : EdOk e ∧ q = encB e := by
  unfold encF at h
  split at h
  · simp at h
  · rename_i h1
    split at h
    · simp at h
    · rename_i h2
      injection h with _ h
      have h1 : (e.add.all mayF && e.del.all (nameB 59)) = true := by simpa using h1
      rw [Bool.and_eq_true, List.all_eq_true, List.all_eq_true] at h1
      refine ⟨⟨h1.1, fun x hx => ?_, by omega, by omega⟩, h.symm⟩
      have := h1.2 x hx
      unfold nameB at this
      simp only [Bool.and_eq_true, decide_eq_true_iff] at this
      omega
theorem encB_app (e : Ed) : encB e = lowN e.next 8 ++ (lowN e.fl 8 ++ (lowN e.add.length 1 ++ (e.add.flatMap fileB ++ (lowN e.del.length 1 ++ (e.del.flatMap short ++ []))))) := by
  simp only [encB, List.append_assoc, List.append_nil]
theorem rdE_enc {e : Ed} (h : EdOk e) (b1 : e.next < 18446744073709551616) (b2 : e.fl < 18446744073709551616) : rdE (encB e) = e := by
  have h1 := h.l1
  have h2 := h.l2
  obtain ⟨add, del, nx, fl⟩ := e
  dsimp only at h1 h2 b1 b2
  have F := rdFs_many add h.add (lowN del.length 1 ++ (del.flatMap short ++ [])) add.length (Nat.le_refl _)
  have T := rdTs_many del h.del [] del.length (Nat.le_refl _)
  rw [List.take_length, List.drop_length, List.flatMap_nil, List.nil_append] at F T
  have p2 : rd2 (encB ⟨add, del, nx, fl⟩) = lowN add.length 1 ++ (add.flatMap fileB ++ (lowN del.length 1 ++ (del.flatMap short ++ []))) := by
    rw [encB_app, rd2, drop_low, drop_low]
  have pn : rdn (encB ⟨add, del, nx, fl⟩) = add.length := by
    rw [rdn, p2, low_back _ (by omega)]
  have p4 : rd4 (encB ⟨add, del, nx, fl⟩) = lowN del.length 1 ++ (del.flatMap short ++ []) := by
    rw [rd4, pn, p2, drop_low, F]
  have pm : rdm (encB ⟨add, del, nx, fl⟩) = del.length := by
    rw [rdm, p4, low_back _ (by omega)]
  rw [rdE, pn, p2, drop_low, F, pm, p4, drop_low, T, encB_app, low_back _ (by omega), drop_low, low_back _ (by omega)]
theorem rrE_enc {e : Ed} (h : EdOk e) (b1 : e.next < 18446744073709551616) (b2 : e.fl < 18446744073709551616) : rrE (encB e) = some e := by
  have h1 := h.l1
  have h2 := h.l2
  obtain ⟨add, del, nx, fl⟩ := e
  dsimp only at h1 h2 b1 b2
  have F := rrFs_many add h.add (lowN del.length 1 ++ (del.flatMap short ++ [])) add.length (Nat.le_refl _)
  have T := rrTs_many del h.del [] del.length (Nat.le_refl _)
  rw [List.take_length, List.drop_length, List.flatMap_nil, List.nil_append] at F T
  have p2 : (encB ⟨add, del, nx, fl⟩).drop 16 = lowN add.length 1 ++ (add.flatMap fileB ++ (lowN del.length 1 ++ (del.flatMap short ++ []))) := by
    have : ∀ l : List UInt8, l.drop 16 = (l.drop 8).drop 8 := fun l => by rw [List.drop_drop]
    rw [this, encB_app, drop_low, drop_low]
  have hl : ¬ (encB ⟨add, del, nx, fl⟩).length < 16 := by
    rw [encB_app]; simp only [List.length_append, lowN_length]; omega
  rw [rrE, if_neg hl, p2, first_low _ (by omega)]
  simp only [Int.toNat_natCast]
  rw [F, Option.bind_some]
  simp only
  rw [first_low _ (by omega)]
  simp only [Int.toNat_natCast]
  rw [T, Option.map_some, encB_app, low_back _ (by omega), drop_low, low_back _ (by omega)]
theorem rrE_num {t : List UInt8} {e : Ed} (h : rrE t = some e) : e.next < 18446744073709551616 ∧ e.fl < 18446744073709551616 := by
  unfold rrE at h
  split at h
  · cases h
  · obtain ⟨p, _, h⟩ := Option.bind_eq_some_iff.1 h
    obtain ⟨q, _, h⟩ := Option.map_eq_some_iff.1 h
    subst h
    exact ⟨lowV_take8 _, lowV_take8 _⟩
/-- Both read the same. -/
theorem rdec_eq (t : List UInt8) : rdecF t = decF t := by
  by_cases h : encF (rdE t) = (0, t)
  · obtain ⟨ok, ht⟩ := enc_ok h
    have hr := rrE_enc ok (lowV_take8 _) (lowV_take8 _)
    rw [← ht] at hr
    rw [dec_yes h, rdecF, hr]
    simp only [h, if_true]
  · rw [dec_no h, rdecF]
    cases hr : rrE t with
    | none => rfl
    | some e =>
      simp only
      rw [if_neg]
      intro he
      obtain ⟨ok, ht⟩ := enc_ok he
      obtain ⟨b1, b2⟩ := rrE_num hr
      have := rdE_enc ok b1 b2
      rw [← ht] at this
      rw [this] at h
      exact h he
/-- What Encode wrote, Decode reads. -/
theorem dec_enc {e : Ed} {q : List UInt8} (h : encF e = (0, q)) (b1 : e.next < 18446744073709551616) (b2 : e.fl < 18446744073709551616) : decF q = (0, e) := by
  obtain ⟨ok, hq⟩ := enc_ok h
  have hr := rdE_enc ok b1 b2
  rw [← hq] at hr
  rw [dec_yes (by rw [hr]; exact h), hr]
theorem enc_len {e : Ed} {q : List UInt8} (h : encF e = (0, q)) : q.length ≤ 1000000 := by
  obtain ⟨ok, rfl⟩ := enc_ok h
  have h1 := ok.l1
  have h2 := ok.l2
  have e1 := flat_le (f := fileB) (n := 200) e.add (fun x hx => fileB_len (ok.add x hx))
  have e2 := flat_le (f := short) (n := 256) e.del (fun x hx => by rw [short_len]; have := ok.del x hx; omega)
  rw [encB_app]
  simp only [List.length_append, lowN_length, List.append_nil]
  omega
end Go.Proofs.Yteglddggjkibcaa
