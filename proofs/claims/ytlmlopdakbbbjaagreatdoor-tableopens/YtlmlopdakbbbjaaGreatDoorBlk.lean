/-
  Blocks as plain mathematics: what was built is parsed, what is parsed was built, a byte more or less is no block. No program here.
-/
import Derived.Test.YtlmlopdakbbbjaaGreatDoorPrs
namespace Go.Proofs.YtlmlopdakbbbjaaGreatDoor
open Go.RowKit

/-- Each key stands behind the one ahead. -/
def chain : List UInt8 → List Cel → Prop
  | _, [] => True
  | last, c :: t => Op.bytesLess last (key c) = true ∧ chain (key c) t
theorem chain_cons {last : List UInt8} {c : Cel} {t : List Cel} : chain last (c :: t) ↔ Op.bytesLess last (key c) = true ∧ chain (key c) t := Iff.rfl
theorem less_key (a b : Cel) (ha : a.ok) (hb : b.ok) : Op.bytesLess (key a) (key b) = true ↔ cmpC a b < 0 := by
  rw [less_cmp, cmpT_key a b ha hb]
  have := cmpC_vals a b
  omega
theorem chain_rising (t : List Cel) : ∀ c : Cel, c.ok → (∀ d ∈ t, d.ok) → (chain (key c) t ↔ rising (c :: t) = true) := by
  induction t with
  | nil => intro c _ _; simp [chain, rising]
  | cons d t ih =>
    intro c hc ht
    have hd := ht d (by simp)
    rw [chain_cons, less_key c d hc hd, ih d hd (fun e he => ht e (by simp [he]))]
    rw [rising]
    simp
theorem key_pos (c : Cel) : Op.bytesLess [] (key c) = true := by
  have h : (key c).length ≠ 0 := by simp [key]
  cases hk : key c with
  | nil => rw [hk] at h; simp at h
  | cons a t => rfl
theorem chain_nil (l : List Cel) (hok : ∀ c ∈ l, c.ok) : chain [] l ↔ rising l = true := by
  cases l with
  | nil => simp [chain, rising]
  | cons c t =>
    rw [chain_cons, chain_rising t c (hok c (by simp)) (fun d hd => hok d (by simp [hd]))]
    simp [key_pos]

/-- What was written is told. -/
theorem its_ents (l : List Cel) : ∀ (p : Nat) (last x : List UInt8), (∀ c ∈ l, mayB c = true) → (∀ c ∈ l, c.ok) → chain last l →
    itsR l.length p last (entsFrom p last l ++ x) = l.map some ++ (if x = [] then [] else [none]) := by
  induction l with
  | nil => intro p last x _ _ _; simp [entsFrom, itsR_zero]
  | cons c t ih =>
    intro p last x hm hok hc
    obtain ⟨h1, h2⟩ := chain_cons.1 hc
    have e : entsFrom p last (c :: t) ++ x = ent (lend p last) c ++ (entsFrom (p + 1) (key c) t ++ x) := by simp [entsFrom]
    rw [List.length_cons, e, itsR_some (rdE_ent _ _ _ (hm c (by simp)) (hok c (by simp))) h1]
    simp only
    rw [ih (p + 1) (key c) x (fun d hd => hm d (by simp [hd])) (fun d hd => hok d (by simp [hd])) h2]
    rfl
/-- What is told was written. -/
theorem ents_its (m : Nat) : ∀ (p : Nat) (last l : List UInt8) (cs : List Cel), itsR m p last l = cs.map some → cs.length = m ∧ l = entsFrom p last cs ∧ (∀ c ∈ cs, mayB c = true) ∧ (∀ c ∈ cs, c.ok) ∧ chain last cs := by
  induction m with
  | zero =>
    intro p last l cs h
    rw [itsR_zero] at h
    split at h
    · rename_i hl
      cases cs with
      | nil => exact ⟨rfl, hl, by simp, by simp, trivial⟩
      | cons c t => simp at h
    · cases cs with
      | nil => simp at h
      | cons c t => simp at h
  | succ m ih =>
    intro p last l cs h
    cases hr : rdE (lend p last) l with
    | none =>
      rw [itsR_none hr] at h
      cases cs with
      | nil => simp at h
      | cons c t => simp at h
    | some x =>
      cases hb : Op.bytesLess last (key x.1) with
      | false =>
        rw [itsR_low hr hb] at h
        cases cs with
        | nil => simp at h
        | cons c t => simp at h
      | true =>
        rw [itsR_some hr hb] at h
        cases cs with
        | nil => simp at h
        | cons c t =>
          simp only [List.map_cons, List.cons.injEq, Option.some.injEq] at h
          obtain ⟨hc, ht⟩ := h
          obtain ⟨c', r⟩ := x
          simp only at hc hb ht
          subst hc
          obtain ⟨hm, hok, hl, -, -⟩ := rdE_some hr
          obtain ⟨k1, k2, k3, k4, k5⟩ := ih _ _ _ _ ht
          refine ⟨by simp [k1], ?_, ?_, ?_, hb, k5⟩
          · rw [hl, k2]; rfl
          · intro d hd
            rcases List.mem_cons.1 hd with rfl | hd
            · exact hm
            · exact k3 d hd
          · intro d hd
            rcases List.mem_cons.1 hd with rfl | hd
            · exact hok
            · exact k4 d hd

theorem errB_zero {l : List Cel} : errB l = 0 ↔ l.length ≤ 255 ∧ (∀ c ∈ l, mayB c = true) ∧ rising l = true := by
  unfold errB
  by_cases h1 : 255 < l.length
  · rw [if_pos h1]; constructor
    · intro h; cases h
    · intro h; omega
  · rw [if_neg h1]
    cases h2 : l.all mayB with
    | false =>
      rw [if_pos rfl]
      constructor
      · intro h; cases h
      · rintro ⟨_, h, _⟩
        rw [List.all_eq_false] at h2
        obtain ⟨c, hc, hx⟩ := h2
        exact absurd (h c hc) hx
    | true =>
      rw [if_neg (by simp)]
      rw [List.all_eq_true] at h2
      cases h3 : rising l with
      | false => simp
      | true => simp; exact ⟨by omega, h2⟩

theorem itsOf_blk (l : List Cel) (x : List UInt8) (he : errB l = 0) (hok : ∀ c ∈ l, c.ok) : itsOf (blk l ++ x) = l.map some ++ (if x = [] then [] else [none]) := by
  obtain ⟨h1, h2, h3⟩ := errB_zero.1 he
  have e : (UInt8.ofNat l.length).toNat = l.length := by rw [UInt8.toNat_ofNat']; omega
  show itsR (UInt8.ofNat l.length).toNat 0 [] (entsFrom 0 [] l ++ x) = _
  rw [e]
  exact its_ents l 0 [] x h2 hok ((chain_nil l hok).2 h3)
theorem parseO_of {s : List UInt8} {l : List Cel} (h : itsOf s = l.map some) : parseO s = some l := by
  unfold parseO; rw [h, if_pos (by simp)]; simp
theorem parseO_not {s : List UInt8} {l : List Cel} (h : itsOf s = l.map some ++ [none]) : parseO s = none := by
  unfold parseO; rw [h, if_neg (by simp)]
theorem parseO_blk (l : List Cel) (he : errB l = 0) (hok : ∀ c ∈ l, c.ok) : parseO (blk l) = some l := by
  have := itsOf_blk l [] he hok
  rw [List.append_nil, if_pos rfl, List.append_nil] at this
  exact parseO_of this
theorem parseO_some {s : List UInt8} {l : List Cel} (h : parseO s = some l) : errB l = 0 ∧ (∀ c ∈ l, c.ok) ∧ blk l = s := by
  unfold parseO at h
  split at h
  · rename_i ha
    injection h with h
    have hm : itsOf s = l.map some := by
      rw [← h]
      have : ∀ L : List (Option Cel), L.all Option.isSome = true → L = (L.filterMap id).map some := by
        intro L hL
        induction L with
        | nil => rfl
        | cons o L ih =>
          simp only [List.all_cons, Bool.and_eq_true] at hL
          cases o with
          | none => simp at hL
          | some c =>
            simp only [List.filterMap_cons, id, List.map_cons]
            rw [← ih hL.2]
      exact this _ ha
    cases s with
    | nil =>
      cases l with
      | nil => simp [itsOf] at hm
      | cons c t => simp [itsOf] at hm
    | cons b t =>
      obtain ⟨k1, k2, k3, k4, k5⟩ := ents_its _ _ _ _ _ (show itsR b.toNat 0 [] t = l.map some from hm)
      have hb := b.toNat_lt
      refine ⟨errB_zero.2 ⟨by omega, k3, (chain_nil l k4).1 k5⟩, k4, ?_⟩
      unfold blk
      rw [k1, ← k2]
      simp
  · cases h
theorem parseO_more (l : List Cel) (x : List UInt8) (hx : x ≠ []) (he : errB l = 0) (hok : ∀ c ∈ l, c.ok) : parseO (blk l ++ x) = none := by
  have := itsOf_blk l x he hok
  rw [if_neg hx] at this
  exact parseO_not this
theorem parseO_less (l : List Cel) (he : errB l = 0) (hok : ∀ c ∈ l, c.ok) : parseO ((blk l).take ((blk l).length - 1)) = none := by
  cases hp : parseO ((blk l).take ((blk l).length - 1)) with
  | none => rfl
  | some l' =>
    exfalso
    obtain ⟨e1, o1, b1⟩ := parseO_some hp
    have hsplit : blk l' ++ (blk l).drop ((blk l).length - 1) = blk l := by rw [b1]; exact List.take_append_drop _ _
    have hne : (blk l).drop ((blk l).length - 1) ≠ [] := by
      intro e
      have := congrArg List.length e
      simp [blk] at this
    have h1 := parseO_more l' _ hne e1 o1
    rw [hsplit, parseO_blk l he hok] at h1
    cases h1
theorem blk_len (l : List Cel) (he : errB l = 0) : (blk l).length ≤ 80000 ∧ 1 ≤ (blk l).length := by
  obtain ⟨h1, h2, -⟩ := errB_zero.1 he
  have h : ∀ (l : List Cel) (p : Nat) (last : List UInt8), (∀ c ∈ l, mayB c = true) → (entsFrom p last l).length ≤ 300 * l.length := by
    intro l
    induction l with
    | nil => intro p last _; simp [entsFrom]
    | cons c t ih =>
      intro p last hm
      have a := ent_len (lend p last) c (hm c (by simp))
      have b := ih (p + 1) (key c) (fun d hd => hm d (by simp [hd]))
      simp only [entsFrom, List.length_append, List.length_cons]
      omega
  have := h l 0 [] h2
  simp only [blk, List.length_cons]
  omega
end Go.Proofs.YtlmlopdakbbbjaaGreatDoor
