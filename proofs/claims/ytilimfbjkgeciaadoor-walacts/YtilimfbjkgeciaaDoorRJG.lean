/-
  Texts in one: RJnd RGud. Conditions: as each theorem writes them.
-/
import Derived.Test.YtilimfbjkgeciaaDoorRRen
import Derived.Test.YtilimfbjkgeciaaDoorCRef
import Derived.Test.YtilimfbjkgeciaaDoorWPut
namespace Go.Proofs.YtilimfbjkgeciaaDoor
set_option maxRecDepth 100000
open Go.RowKit

set_option maxHeartbeats 4000000 in
theorem rjoin_any (l : List (List UInt8)) (A : Option Addr) (cap : Nat) (w : World) (h : Strs w A cap l) (hml : l.length ≤ 1000) (hsm : ∀ t ∈ l, t.length ≤ 1000000) :
    Calls Tryd.prog 42 #[.slice A l.length cap] w fun e w' => e = .returned (.tuple #[.string (B (jS l)), .bool (!(l.any wideT))]) ∧ Old w w' := by
  obtain ⟨S, hS⟩ : ∃ S, S = jS l := ⟨_, rfl⟩
  obtain ⟨E, hE⟩ : ∃ E, E = !(l.any wideT) := ⟨_, rfl⟩
  rw [← hS, ← hE]
  have HS := Lib.hid hS
  have HE := Lib.hid hE
  clear hS hE
  go_enter Tryd.func42, Tryd.ntmps42
  go_wp2_with fail
  go_loopw [4, 5] (fun s i wr => ∃ k : Nat, k ≤ l.length ∧ i = .int .i64 k ∧ s = .string (B (puts (l.take k))) ∧ Old w wr ∧ Hid ((l.take k).any wideT = false)) (fun _ i _ => l.length - (intOf i).toNat)
  case atStart => exact ⟨0, Nat.zero_le _, rfl, rfl, Old.re _, Lib.hid rfl⟩
  case round =>
    obtain ⟨k, hk, rfl, rfl, ho, HA⟩ := hrel
    by_cases hlt : k < l.length
    · obtain ⟨-, b, off, rfl, hc0⟩ := (h.old ho).at_ k hlt
      have hc := hsm l[k] (List.getElem_mem hlt)
      have HT := Lib.hid (puts_snoc l k hlt)
      have HM := Lib.hid (fun (e : wideT l[k] = true) => (show l.any wideT = true by
        rw [List.any_eq_true]; exact ⟨l[k], List.getElem_mem hlt, e⟩))
      have HY := Lib.hid (fun (e : wideT l[k] = false) => (show (l.take (k + 1)).any wideT = false by
        rw [List.take_succ_eq_append_getElem hlt, List.any_append, HA.out]; simp [e]))
      have hpl : (puts (l.take k)).length ≤ 65541 * 1000 := by
        have h1 := puts_le (l.take k) (fun t hx => wide_not (by
          have := HA.out
          rw [List.any_eq_false] at this
          simpa using this t hx))
        have h2 : (l.take k).length ≤ 1000 := by rw [List.length_take]; omega
        omega
      generalize l[k] = t at *
      by_cases hw : 65535 < t.length
      · have HX := Lib.hid (HM.out (by unfold wideT; simpa using hw))
        go_wp2_with (go_at_call 69; refine (rput_no t hw hc _).mono ?_; rintro e w2 ⟨rfl, rfl⟩)
        go_ret2
        exact ⟨by rw [HS.out, HE.out]; unfold jS; rw [HX.out]; rfl, ho⟩
      · have HX := Lib.hid (HY.out (by unfold wideT; simpa using hw))
        have hpt := put_length t
        have i7 : ¬ 9223372036854775807 < (puts (l.take k)).length + (c_put t).length := by omega
        have i8 : (9223372036854775807 < (puts (l.take k)).length + (c_put t).length) = False := by simpa using i7
        have hcat := add_B (puts (l.take k)) (c_put t)
        rw [← HT.out] at hcat
        go_wp2_with (go_at_call 69; refine (rput_yes t (by omega) _).mono ?_; rintro e w2 ⟨rfl, o2⟩)
        go_roundw
        case rel => exact ⟨k + 1, by omega, by go_num, by rw [← hcat], ho.tr o2, HX⟩
        case measure => simp [intOf]; omega
    · obtain rfl : k = l.length := by omega
      have HA2 := Lib.hid (show l.any wideT = false by have := HA.out; rwa [List.take_length] at this)
      rw [List.take_length]
      go_wp2
      go_ret2
      exact ⟨by rw [HS.out, HE.out]; unfold jS; rw [HA2.out]; rfl, ho⟩
end Go.Proofs.YtilimfbjkgeciaaDoor

namespace Go.Proofs.YtilimfbjkgeciaaDoor
open Go.RowKit

def nms (L : List Pf) : List (List UInt8) := L.map Pf.name
def Two (x : List UInt8) (L : List Pf) : Prop := nms L = [] ∨ nms L = [x] ∨ nms L = [side x] ∨ nms L = [x, side x]
structure Good (x : List UInt8) (r : Pd) : Prop where
  fin : Fin r.files
  cap : r.cap ≤ 1000000
  left : r.left ≤ 9223372036854775807
  two : Two x r.files
theorem side_no (x : List UInt8) : side x ≠ x := by
  intro h
  have := congrArg List.length h
  simp [side] at this
theorem ne_side (x : List UInt8) : x ≠ side x := fun h => side_no x h.symm
theorem nms_map (keep : Int) (L : List Pf) : nms (L.map (pcr keep)) = nms L := by
  unfold nms
  rw [List.map_map]
  rfl
theorem fin_map {L : List Pf} (h : Fin L) (keep : Int) : Fin (L.map (pcr keep)) := by
  refine ⟨by simpa using h.len, ?_, fun f hf => ?_⟩
  · refine Nat.le_trans ?_ h.tot
    clear h
    unfold ptot
    rw [List.map_map]
    induction L with
    | nil => exact Nat.le_refl _
    | cons f L ih =>
      rw [List.map_cons, List.map_cons, List.sum_cons, List.sum_cons]
      have : ((fun f => f.s.length) ∘ pcr keep) f ≤ f.s.length := by
        show (f.s.take (pstay keep f)).length ≤ _
        rw [List.length_take]
        exact Nat.min_le_right _ _
      omega
  · obtain ⟨g, hg, rfl⟩ := List.mem_map.1 hf
    have hs := h.syn g hg
    show pstay keep g ≤ (g.s.take (pstay keep g)).length
    rw [List.length_take]
    have : pstay keep g ≤ g.s.length := by
      unfold pstay
      split
      · have := Nat.mod_lt keep.toNat (show 0 < g.s.length - g.n + 1 by omega)
        omega
      · exact hs
    omega
theorem Two.nd {x : List UInt8} {L : List Pf} (h : Two x L) : NdN L := by
  unfold NdN
  have e : L.map Pf.name = nms L := rfl
  rw [e]
  rcases h with h | h | h | h <;> rw [h]
  · exact List.nodup_nil
  · simp
  · simp
  · simp [ne_side]
theorem good_gate {x : List UInt8} {r : Pd} (h : Good x r) {L : List Pf} (hf : Fin L) (h2 : Two x L) (a : Bool) : Good x (rgate r a L).1 := by
  obtain ⟨h1, hc, hl, ht⟩ := h
  unfold rgate
  split
  · exact ⟨hf, hc, hl, h2⟩
  split
  · exact ⟨hf, hc, by show r.left - 1 ≤ _; omega, h2⟩
  split
  · refine ⟨fin_map hf _, hc, by show r.left - 1 ≤ _; omega, ?_⟩
    show Two x (L.map (pcr r.keep))
    unfold Two
    rw [nms_map]
    exact h2
  · refine ⟨fin_map h1 _, hc, by show r.left - 1 ≤ _; omega, ?_⟩
    show Two x (r.files.map (pcr r.keep))
    unfold Two
    rw [nms_map]
    exact ht
theorem nms_pset (s : List UInt8) (g : Pf → Pf) (hg : ∀ f, (g f).name = f.name) (L : List Pf) : nms (pset s g L) = nms L := by
  unfold nms pset
  rw [List.map_map]
  apply List.map_congr_left
  intro f _
  show (if f.name = s then g f else f).name = f.name
  split
  · exact hg f
  · rfl
theorem nms_pdel (s : List UInt8) (L : List Pf) : nms (pdel s L) = (nms L).filter fun n => n != s := by
  unfold nms pdel
  rw [List.filter_map]
  rfl
theorem two_pdel {x : List UInt8} {L : List Pf} (h : Two x L) (s : List UInt8) (hs : s = x ∨ s = side x) : Two x (pdel s L) := by
  have h1 := side_no x
  have h2 := ne_side x
  unfold Two at h ⊢
  rw [nms_pdel]
  rcases hs with rfl | rfl <;> rcases h with h | h | h | h <;> rw [h] <;> simp [h1, h2]
theorem find_at {L : List Pf} {s : List UInt8} {f : Pf} (h : pfnd L s = some f) : ∃ k : Nat, L[k]? = some f := by
  have := List.mem_of_find?_eq_some h
  exact List.mem_iff_getElem?.1 this
theorem find_none {L : List Pf} {s : List UInt8} (h : pfnd L s = none) : s ∉ nms L := by
  intro hm
  obtain ⟨f, hf, he⟩ := List.mem_map.1 hm
  have := List.find?_eq_none.1 h f hf
  simp [he] at this
theorem good_delete {x : List UInt8} {r : Pd} (h : Good x r) (s : List UInt8) (hs : s = x ∨ s = side x) : Good x (rdelete r s).1 := by
  unfold rdelete
  split
  · exact h
  · exact good_gate h (fin_del h.fin s) (two_pdel h.two s hs) false
theorem good_append {x : List UInt8} {r : Pd} (h : Good x r) (s t : List UInt8) : Good x (rappend r s t).1 := by
  unfold rappend
  split
  · exact h
  next h1 =>
  split
  · exact h
  next h2 =>
  have h2' : ptot r.files + t.length ≤ r.cap := by omega
  have hc := h.cap
  cases e : pfnd r.files s with
  | none =>
    exfalso
    apply h1
    unfold pneed
    rw [e]
    split
    · assumption
    · decide
  | some f =>
    obtain ⟨k, hk⟩ := find_at e
    have hF : Fin (pset s (grow t) r.files) := by
      rw [pset_set h.two.nd e hk]
      exact fin_set h.fin hk (grow t f) (by have := h.fin.syn f (List.mem_of_getElem? hk); simp [grow]; omega) (by simp [grow]; omega)
    refine good_gate h hF ?_ true
    unfold Two
    rw [nms_pset s (grow t) (fun f => rfl)]
    exact h.two
theorem good_sync {x : List UInt8} {r : Pd} (h : Good x r) (s : List UInt8) : Good x (rsync r s).1 := by
  unfold rsync
  split
  · exact h
  next h1 =>
  cases e : pfnd r.files s with
  | none =>
    exfalso
    apply h1
    unfold pneed
    rw [e]
    split
    · assumption
    · decide
  | some f =>
    obtain ⟨k, hk⟩ := find_at e
    have hF : Fin (pset s fast r.files) := by
      rw [pset_set h.two.nd e hk]
      exact fin_set h.fin hk (fast f) (Nat.le_refl _) (by have := h.fin.tot; simp only [fast]; omega)
    refine good_gate h hF ?_ false
    unfold Two
    rw [nms_pset s fast (fun f => rfl)]
    exact h.two
theorem good_create {x : List UInt8} {r : Pd} (h : Good x r) : Good x (rcreate r (side x)).1 := by
  unfold rcreate
  split
  · exact h
  split
  · exact h
  next h1 =>
  split
  · exact h
  next h2 =>
  have hn := find_none (by simpa using h1)
  refine good_gate h (fin_add h.fin (by omega) _) ?_ false
  have e : nms (r.files ++ [⟨side x, [], 0⟩]) = nms r.files ++ [side x] := by simp [nms]
  have ht := h.two
  unfold Two at ht ⊢
  rw [e]
  rcases ht with h3 | h3 | h3 | h3
  · rw [h3]; simp
  · rw [h3]; simp
  · rw [h3] at hn; simp at hn
  · rw [h3] at hn; simp at hn
theorem less_side (x : List UInt8) : Op.bytesLess x (side x) = true := by
  unfold side
  induction x with
  | nil => rfl
  | cons a x ih =>
    rw [List.cons_append]
    unfold Op.bytesLess
    simp [ih]
theorem top_create {x : List UInt8} {r : Pd} (h : Good x r) (hn : pfnd r.files (side x) = none) : Top r.files (side x) := by
  intro g hg
  have h1 := find_none hn
  have hm : g.name ∈ nms r.files := List.mem_map_of_mem hg
  have ht := h.two
  rcases ht with h3 | h3 | h3 | h3
  · rw [h3] at hm; simp at hm
  · rw [h3] at hm; simp at hm; rw [hm]; exact less_side x
  · rw [h3] at h1; simp at h1
  · rw [h3] at h1; simp at h1
theorem del_both {x : List UInt8} {L : List Pf} (h : Two x L) : pdel x (pdel (side x) L) = [] := by
  have e : nms (pdel x (pdel (side x) L)) = [] := by
    rw [nms_pdel, nms_pdel]
    rcases h with h | h | h | h <;> rw [h] <;> simp [ne_side]
  exact List.map_eq_nil_iff.1 e
theorem fin_move {x : List UInt8} {r : Pd} (h : Good x r) : Fin (pmove (side x) x r.files) := by
  unfold pmove
  cases e : pfnd r.files (side x) with
  | none => exact h.fin
  | some f =>
    have hm := List.mem_of_find?_eq_some e
    show Fin (pdel x (pdel (side x) r.files) ++ [⟨x, f.s, f.n⟩])
    rw [del_both h.two]
    have h1 := h.fin.syn f hm
    have h2 := le_ptot hm
    have h3 := h.fin.tot
    refine ⟨by simp, by simp [ptot]; omega, fun y hy => ?_⟩
    simp at hy
    subst hy
    exact h1
theorem good_rename {x : List UInt8} {r : Pd} (h : Good x r) : Good x (rrename r (side x) x).1 := by
  unfold rrename
  split
  · exact h
  refine good_gate h (fin_move h) ?_ false
  unfold pmove
  cases e : pfnd r.files (side x) with
  | none => exact h.two
  | some f =>
    show Two x (pdel x (pdel (side x) r.files) ++ [⟨x, f.s, f.n⟩])
    rw [del_both h.two]
    exact .inr (.inl rfl)
end Go.Proofs.YtilimfbjkgeciaaDoor
