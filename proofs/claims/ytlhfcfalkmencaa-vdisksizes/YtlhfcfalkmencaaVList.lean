/-
  List of the code: the names of all files, rising. Condition: the disk lies in memory.
-/
import Derived.Test.YtlhfcfalkmencaaVShelf
import Derived.Test.YtlhfcfalkmencaaVTell
import Derived.Sort.KeysCollected
import Derived.Sort.Walk0
namespace Go.Proofs.Ytlhfcfalkmencaa
open Go.RowKit Go.Maps Go.Sort

def nms (L : List Fl) : List (List UInt8) := L.map (·.name)
theorem mem_nms {L : List Fl} (hn : (L.map (·.name)).Nodup) (x : List UInt8) : x ∈ nms L ↔ (fnd L x).isSome = true := by
  unfold nms
  constructor
  · intro h
    obtain ⟨f, hf, rfl⟩ := List.mem_map.1 h
    rw [fnd_of_mem hn hf]
    rfl
  · intro h
    cases hf : fnd L x with
    | none => rw [hf] at h; cases h
    | some f => exact List.mem_map.2 ⟨f, fnd_mem hf, fnd_name hf⟩
theorem keys_perm {w : World} {k : Dsk} {D : DataW Unit} {n : Nat} (hown : w.ownsMap Try.prog 9 ptrR k.m n D) (hR : Rep D k.files) (hn : (k.files.map (·.name)).Nodup) : (nms k.files).Perm (strKeys D) := by
  refine Collected.perm (left := fun _ => false) ⟨hn, fun x => ?_⟩ hown lawS Try.underlying9 (fun _ => rfl)
  rw [hR.has, mem_nms hn]
  simp

/-- The names of files, rising. -/
def rise (L : List Fl) : List (List UInt8) := (nms L).mergeSort fun x y => decide (x ≤ y)
theorem rise_perm (L : List Fl) : (rise L).Perm (nms L) := List.mergeSort_perm _ _
theorem rise_length (L : List Fl) : (rise L).length = L.length := by
  rw [(rise_perm L).length_eq]
  simp [nms]
theorem rise_less {L : List Fl} (hn : (L.map (·.name)).Nodup) : (rise L).Pairwise fun a b => Op.bytesLess a b = true := by
  have tr : ∀ a b c : List UInt8, leB a b = true → leB b c = true → leB a c = true := fun a b c h1 h2 => by simp only [leB, decide_eq_true_eq] at *; exact List.le_trans h1 h2
  have to : ∀ a b : List UInt8, (leB a b || leB b a) = true := fun a b => by simp only [leB, Bool.or_eq_true, decide_eq_true_eq]; exact List.le_total a b
  have h1 : (rise L).Pairwise fun a b => leB a b = true := List.pairwise_mergeSort tr to (nms L)
  have h2 : (rise L).Nodup := ((rise_perm L).nodup_iff).2 hn
  refine (h1.and h2).imp fun {a b} ⟨h3, h4⟩ => ?_
  rw [bytesLess_eq, decide_eq_true_eq]
  simp only [leB, decide_eq_true_eq] at h3
  rcases List.le_iff_lt_or_eq.1 h3 with h | h
  · exact h
  · exact absurd h h4

theorem less_no {u t : List UInt8} (h : Op.bytesLess u t = true) : Op.bytesLess t u = false ∧ (u == t) = false ∧ (t == u) = false := by
  rw [bytesLess_eq, decide_eq_true_eq] at h
  have hne : u ≠ t := fun e => by subst e; exact List.lt_irrefl _ h
  refine ⟨?_, by simpa using hne, by simpa using hne.symm⟩
  rw [bytesLess_eq, decide_eq_false_iff_not]
  exact fun h2 => List.lt_irrefl _ (List.lt_trans h h2)

/-- A slice of the call's own with these texts. -/
def OwnT (w : World) (base : Nat) (A : Option Addr) (cap : Nat) (l : List (List UInt8)) : Prop :=
  l.length ≤ cap ∧ (l = [] ∨ ∃ g cur, A = some ⟨g, 0, none⟩ ∧ base ≤ g ∧ Bk w g 9 cur ∧ ∀ (i : Nat) (t : List UInt8), l[i]? = some t → cur[i]? = some (.string (B t)))
theorem OwnT.strs {w : World} {base : Nat} {A : Option Addr} {cap : Nat} {l : List (List UInt8)} (h : OwnT w base A cap l) (hl : ∀ t ∈ l, t.length ≤ 100000) : Strs w A cap l := by
  refine ⟨h.1, fun i t ht => ⟨by have := hl t (List.mem_of_getElem? ht); unfold maxLen; omega, ?_⟩⟩
  rcases h.2 with rfl | ⟨g, cur, rfl, hb, hc, hi⟩
  · simp at ht
  · exact ⟨g, 0, rfl, by rw [Nat.zero_add, hc.cell]; exact hi i t ht⟩
theorem OwnT.kept {w w' : World} {base : Nat} {A : Option Addr} {cap : Nat} {l : List (List UInt8)} {k k' : Dsk} (h : OwnT w base A cap l) (hk : Kept k k' w w') (ho : ∀ i ∈ own k, i < base) : OwnT w' base A cap l := by
  refine ⟨h.1, ?_⟩
  rcases h.2 with rfl | ⟨g, cur, rfl, hb, hc, hi⟩
  · exact .inl rfl
  · exact .inr ⟨g, cur, rfl, hb, hk.bk hc (fun hx => by have := ho g hx; omega), hi⟩

theorem row_own {w : World} {base : Nat} {v : Value} {l : List (List UInt8)} (h : w.ownsRow base 9 1 v l.length (l.map encStr)) : ∃ A cap, v = .slice A l.length cap ∧ OwnT w base A cap l := by
  rcases h.2 with ⟨rfl, h0⟩ | ⟨g, cap, cur, rfl, hb, hg, hnc, _, hs, ht⟩
  · rw [h0]
    refine ⟨none, 0, rfl, by omega, .inl (List.eq_nil_of_length_eq_zero h0)⟩
  · refine ⟨_, cap, rfl, hnc, .inr ⟨g, cur, rfl, hb, hg, fun i t hi => ?_⟩⟩
    have h1 : (l.map encStr)[i]? = some (encStr t) := by rw [List.getElem?_map, hi]; rfl
    rw [← ht, List.getElem?_take] at h1
    split at h1
    · simpa using h1
    · cases h1

set_option maxHeartbeats 2000000 in
theorem list_any (k : Dsk) (w : World) (h : Dk w k) :
    Calls Try.prog 20 #[ptr k.d] w fun e w' => ∃ A cap, e = .returned (.slice A (rise k.files).length cap) ∧ OwnT w' w.heap.size A cap (rise k.files) ∧ Old w w' := by
  have c1 : w.cell? ⟨k.d, 1, none⟩ = some (.map (some k.m)) := h.disk.at_ 1 rfl
  obtain ⟨D, hown, hR⟩ := h.map
  have hp := keys_perm hown hR h.ok.names
  have hm := h.ok.many
  have HK := Lib.hid fun (mb : Option Nat) (W : World) => callsIn_wide.1 (Try.maps_Keys_32 mb W)
  have HS := Lib.hid (callsIn_wide.1 (Try.slices_Sorted_keys_31_32 k.m k.files.length D ptrR w hown (by rw [hR.size]; unfold maxLen; omega) (by rw [hR.size]; omega)))
  have HP := Lib.hid hp
  clear hp h hown hR
  go_enter Try.func20, Try.ntmps20
  go_wp2_with fail
  refine (HK.out _ _).mono ?_
  rintro e w1 ⟨rfl, rfl⟩
  go_wp2_with fail
  refine HS.out.mono ?_
  rintro e w2 ⟨v, ss, rfl, hss, hrow, -, hb⟩
  have e1 : ss.mergeSort (fun x y => decide (x ≤ y)) = rise k.files := mergeSort_of_perm (hss.trans HP.out.symm)
  have e2 : ss.length = (rise k.files).length := by rw [← e1, List.length_mergeSort]
  rw [e1, e2] at hrow
  obtain ⟨A, cap, rfl, hT⟩ := row_own hrow
  have hT2 : OwnT w2 w.heap.size A cap (rise k.files) := by
    refine ⟨hT.1, ?_⟩
    rcases hT.2 with h | ⟨g, cur, h1, h2, h3⟩
    · exact .inl h
    · exact .inr ⟨g, cur, h1, by simp at h2; omega, h3⟩
  have ho : Old w w2 := (old_alloc w (.cells #[.map (some k.m)] 47)).tr hb
  clear hb hrow hT
  go_wp2
  go_ret
  exact ⟨A, cap, rfl, hT2, ho⟩
end Go.Proofs.Ytlhfcfalkmencaa
