/-
  One file of the list is another. Nothing of the program here.
-/
import Derived.Test.YtilimfbjkgeciaaDoorRCrt
namespace Go.Proofs.YtilimfbjkgeciaaDoor
open Go.RowKit

def NdN (L : List Pf) : Prop := (L.map Pf.name).Nodup
theorem pset_no {L : List Pf} {s : List UInt8} {g : Pf → Pf} (h : ∀ f ∈ L, f.name ≠ s) : pset s g L = L := by
  unfold pset
  induction L with
  | nil => rfl
  | cons x L ih =>
    rw [List.map_cons, if_neg (h x (List.mem_cons_self ..)), ih (fun f hf => h f (List.mem_cons_of_mem _ hf))]
theorem pset_set {L : List Pf} {s : List UInt8} {g : Pf → Pf} {k : Nat} {f : Pf} (hn : NdN L) (hf : pfnd L s = some f) (hk : L[k]? = some f) : pset s g L = L.set k (g f) := by
  have hs : f.name = s := by
    have := List.find?_some hf
    simpa using this
  clear hf
  induction L generalizing k with
  | nil => simp at hk
  | cons x L ih =>
    have hn' : x.name ∉ L.map Pf.name ∧ (L.map Pf.name).Nodup := by
      have := hn
      unfold NdN at this
      rw [List.map_cons, List.nodup_cons] at this
      exact this
    cases k with
    | zero =>
      simp at hk
      subst hk
      rw [List.set_cons_zero]
      have : pset s g L = L := pset_no (fun y hy e => hn'.1 (by rw [hs, ← e]; exact List.mem_map_of_mem hy))
      unfold pset at this ⊢
      rw [List.map_cons, if_pos hs, this]
    | succ k =>
      simp at hk
      have hx : x.name ≠ s := fun e => hn'.1 (by
        rw [e, ← hs]
        exact List.mem_map_of_mem (List.mem_of_getElem? hk))
      rw [List.set_cons_succ]
      have := ih hn'.2 hk
      unfold pset at this ⊢
      rw [List.map_cons, if_neg hx, this]
theorem pset_len (L : List Pf) (s : List UInt8) (g : Pf → Pf) : (pset s g L).length = L.length := by unfold pset; simp
theorem ptot_set {L : List Pf} {k : Nat} {f : Pf} (hk : L[k]? = some f) (x : Pf) : ptot (L.set k x) + f.s.length = ptot L + x.s.length := by
  unfold ptot
  induction L generalizing k with
  | nil => simp at hk
  | cons y L ih =>
    cases k with
    | zero =>
      simp at hk
      subst hk
      rw [List.set_cons_zero, List.map_cons, List.map_cons, List.sum_cons, List.sum_cons]
      omega
    | succ k =>
      simp at hk
      have := ih hk
      rw [List.set_cons_succ, List.map_cons, List.map_cons, List.sum_cons, List.sum_cons]
      omega
theorem fin_set {L : List Pf} (h : Fin L) {k : Nat} {f : Pf} (hk : L[k]? = some f) (x : Pf) (hx : x.n ≤ x.s.length) (ht : ptot L + x.s.length ≤ 1000000 + f.s.length) : Fin (L.set k x) := by
  refine ⟨by simpa using h.len, ?_, fun y hy => ?_⟩
  · have := ptot_set hk x
    omega
  · rcases List.mem_or_eq_of_mem_set hy with h1 | h1
    · exact h.syn y h1
    · subst h1; exact hx
theorem at_len {L : List Pf} {k : Nat} {f : Pf} (hk : L[k]? = some f) : k < L.length := (List.getElem?_eq_some_iff.1 hk).1
/-- What a box of a disk holds stays when memory grows. -/
theorem keep5 {W W' w3 : World} {g : Nat} {t : TypeId} {u0 u1 u2 u3 u4 : Value} (b : Bk W g t #[u0, u1, u2, u3, u4]) (h : Old W W') (o : Old W' w3) :
    Old W w3 ∧ w3.cell? ⟨g, 0, none⟩ = some u0 ∧ w3.cell? ⟨g, 1, none⟩ = some u1 ∧ w3.cell? ⟨g, 2, none⟩ = some u2 ∧ w3.cell? ⟨g, 3, none⟩ = some u3 ∧ w3.cell? ⟨g, 4, none⟩ = some u4 :=
  let o2 := h.tr o
  let b2 := b.old o2
  ⟨o2, b2.at_ 0 rfl, b2.at_ 1 rfl, b2.at_ 2 rfl, b2.at_ 3 rfl, b2.at_ 4 rfl⟩
theorem bkF_put {w : World} {g : Nat} {L : List Pf} {r : List Value} (h : Bk w g 83 (flatF L ++ r).toArray) {i : Nat} {f : Pf} (hx : L[i]? = some f) (_ : L.length ≤ 1000) {c : Nat} (hr : c * 3 = L.length * 3 + r.length) (hc : L.length ≤ c) (hm : c ≤ maxLen) (s : List UInt8) :
    Flt (w.setCell ⟨g, i * 3 + 1, none⟩ (.string (B s))) (.slice (some ⟨g, 0, none⟩) L.length c) (L.set i ⟨f.name, s, f.n⟩) := by
  have h1 := bkF_set h hx s
  have hle : (L.set i ⟨f.name, s, f.n⟩).length = L.length := by simp
  have := ownF_mk (base := 0) h1 (Nat.zero_le _) (by rw [hle]; exact hc) (by rw [hle]; exact hr) hm
  rw [hle] at this
  exact this.flt
theorem bkF_putn {w : World} {g : Nat} {L : List Pf} {r : List Value} (h : Bk w g 83 (flatF L ++ r).toArray) {i : Nat} {f : Pf} (hx : L[i]? = some f) (_ : L.length ≤ 1000) {c : Nat} (hr : c * 3 = L.length * 3 + r.length) (hc : L.length ≤ c) (hm : c ≤ maxLen) (n : Nat) :
    Flt (w.setCell ⟨g, i * 3 + 2, none⟩ (.int .i64 (n : Int))) (.slice (some ⟨g, 0, none⟩) L.length c) (L.set i ⟨f.name, f.s, n⟩) := by
  have h1 := bkF_setn h hx n
  have hle : (L.set i ⟨f.name, f.s, n⟩).length = L.length := by simp
  have := ownF_mk (base := 0) h1 (Nat.zero_le _) (by rw [hle]; exact hc) (by rw [hle]; exact hr) hm
  rw [hle] at this
  exact this.flt
end Go.Proofs.YtilimfbjkgeciaaDoor
