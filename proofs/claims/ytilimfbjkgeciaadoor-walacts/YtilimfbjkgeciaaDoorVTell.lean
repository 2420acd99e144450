/-
  Read, Synced, On, New, Size of the code. Conditions: the disk lies in memory; lengths as written.
-/
import Derived.Test.YtilimfbjkgeciaaDoorVFind
namespace Go.Proofs.YtilimfbjkgeciaaDoor
set_option maxRecDepth 100000
open Go.RowKit Go.Maps

set_option maxHeartbeats 1000000 in
theorem read_ok (k : Dsk) (s : List UInt8) (hs : s.length ≤ 100000) (w : World) (h : Dk w k) (f : Fl) (hu : k.up = true) (hb : bad s = false) (hf : fnd k.files s = some f) :
    Calls Tryd.prog 28 #[ptr k.d, .string (B s)] w fun e w' => e = .returned (.tuple #[.string (B f.s), .int .i64 0]) ∧ Old w w' := by
  obtain ⟨e1, e2⟩ := fndE_of hu hb hf
  have hfi := find_any k s hs w h
  rw [e1, e2] at hfi
  have HF := Lib.hid hfi
  have HK := Lib.hid fun w1 (o : Old w w1) => ((h.old o).files f (fnd_mem hf)).at_ 0 rfl
  clear hfi e1 e2 hu hb hf h
  go_enter Tryd.func28, Tryd.ntmps28
  go_wp2_with fail
  refine HF.out.mono ?_
  rintro e w1 ⟨rfl, o1⟩
  have c0 := HK.out w1 o1
  go_wp2
  go_ret2
  exact ⟨rfl, o1⟩

set_option maxHeartbeats 1000000 in
theorem read_no (k : Dsk) (s : List UInt8) (hs : s.length ≤ 100000) (w : World) (h : Dk w k) (hE : fndE k s ≠ 0) :
    Calls Tryd.prog 28 #[ptr k.d, .string (B s)] w fun e w' => e = .returned (.tuple #[.string (B []), .int .i64 (fndE k s)]) ∧ Old w w' := by
  have hfi := find_any k s hs w h
  rw [fndP_no hE] at hfi
  have HF := Lib.hid hfi
  clear hfi h
  generalize fndE k s = E at *
  go_enter Tryd.func28, Tryd.ntmps28
  go_wp2_with fail
  refine HF.out.mono ?_
  rintro e w1 ⟨rfl, o1⟩
  go_wp2
  go_ret2
  exact ⟨rfl, o1⟩

/-- How many bytes of a name's file are synced. -/
def syn (k : Dsk) (s : List UInt8) : Nat := match fnd k.files s with | some f => f.n | none => 0
set_option maxHeartbeats 1000000 in
theorem gate_any (w : World) : Calls Tryd.prog 27 #[] w fun e w' => e = .returned gateO ∧ w = w' := by
  go_enter Tryd.func27, Tryd.ntmps27
  go_wp2
  go_ret
  exact ⟨rfl, rfl⟩

/-- The disk's own struct is written. -/
theorem Dk.ne_m {w : World} {k : Dsk} (h : Dk w k) : k.m ≠ k.d := by
  obtain ⟨D, ⟨es, c, h3, _⟩, _⟩ := h.map
  intro e
  have := h.disk
  unfold Bk at this
  rw [e, this] at h3
  cases h3
theorem Dk.ne_f {w : World} {k : Dsk} (h : Dk w k) {f : Fl} (hf : f ∈ k.files) : f.blk ≠ k.d := Bk.ne (h.files f hf) h.disk (by decide)
theorem set_kept {k k' : Dsk} {w : World} {p : Addr} (u : Value) (hp : p.block ∈ own k) (hs : ∀ i ∈ own k', i ∈ own k) : Kept k k' w (w.setCell p u) :=
  ⟨rfl, rfl, rfl, by simp [World.setCell], fun i _ hn => Below.heap_setCell w p u i (fun e => hn (e ▸ hp)), fun i hi => .inl (hs i hi)⟩

/-- The disk, up, without a fuse. -/
def onK (k : Dsk) : Dsk := { k with up := true, fuse := none }
theorem own_onK (k : Dsk) : ∀ i ∈ own (onK k), i ∈ own k := by
  intro i hi
  simp only [own, onK, gateB, List.nil_append, List.mem_cons, List.mem_append] at hi ⊢
  rcases hi with h | h | h
  · exact .inl h
  · exact .inr (.inl h)
  · exact .inr (.inr (.inr h))

set_option maxHeartbeats 1000000 in
theorem on_any (k : Dsk) (w : World) (h : Dk w k) :
    Calls Tryd.prog 21 #[ptr k.d] w fun e w' => e = .returned (.tuple #[]) ∧ Dk w' (onK k) ∧ Kept k (onK k) w w' := by
  have f2 := h.disk.fr 2
  have c2 := h.disk.at_ 2 rfl
  have h1 := h.disk.set_ 2 (.bool true)
  have f3 := h.disk.fr 3
  have c3 := h.disk.at_ 3 rfl
  have h2 := h1.set_ 3 gateO
  have hd : ∀ i, i ≠ k.d → ((w.setCell ⟨k.d, 2, none⟩ (.bool true)).setCell ⟨k.d, 3, none⟩ gateO).heap[i]? = w.heap[i]? := fun i hi => by
    rw [Below.heap_setCell _ _ _ i hi, Below.heap_setCell _ _ _ i hi]
  have HR := Lib.hid (show Dk ((w.setCell ⟨k.d, 2, none⟩ (.bool true)).setCell ⟨k.d, 3, none⟩ gateO) (onK k) ∧ Kept k (onK k) w ((w.setCell ⟨k.d, 2, none⟩ (.bool true)).setCell ⟨k.d, 3, none⟩ gateO) by
    refine ⟨⟨h2, ?_, fun f hf => (hd _ (h.ne_f hf)).trans (h.files f hf), trivial, ⟨h.ok.1, h.ok.2, h.ok.3, h.ok.4, h.ok.5, h.ok.6, h.ok.7⟩⟩, ⟨rfl, rfl, rfl, by simp [World.setCell], fun i _ hn => hd i (fun e => hn (by simp [own, e])), fun i hi => .inl (own_onK k i hi)⟩⟩
    obtain ⟨D, ⟨es, c, h3, h4⟩, h5⟩ := h.map
    exact ⟨D, ⟨es, c, (hd _ h.ne_m).trans h3, h4⟩, h5⟩)
  clear h1 h2 hd h
  go_enter Tryd.func21, Tryd.ntmps21
  go_wp2_with (go_at_call 27; refine (gate_any _).mono ?_; rintro e w1 ⟨rfl, rfl⟩)
  refine bodyPost_end (results_none rfl _ _ _) rfl ?_
  exact ⟨rfl, HR.out⟩

/-- A new disk. -/
def newK (w : World) (cap : Nat) : Dsk := ⟨w.heap.size + 1, w.heap.size, cap, [], true, none⟩
theorem Rep.nil : Rep (.map []) [] := ⟨fun _ => rfl, fun _ _ h => (by cases h), rfl⟩
theorem new_dk (w : World) (cap : Nat) (hc : cap ≤ 1000000000000) : Dk ((w.alloc (.map #[] 0)).alloc (.cells #[.int .i64 (cap : Int), .map (some w.heap.size), .bool true, gateO] 61)) (newK w cap) := by
  refine ⟨?_, ⟨_, (World.ownsMap_made w _ _ _).alloc _, Rep.nil⟩, fun _ h => (by cases h), trivial, ⟨List.nodup_nil, List.nodup_nil, fun _ h => (by cases h), fun _ h => (by cases h), Nat.zero_le _, Nat.zero_le _, hc⟩⟩
  have := new_bk (w.alloc (.map #[] 0)) 61 #[.int .i64 (cap : Int), .map (some w.heap.size), .bool true, gateO]
  rw [show (w.alloc (.map #[] 0)).heap.size = w.heap.size + 1 by simp] at this
  exact this

set_option maxHeartbeats 1000000 in
theorem new_any (cap : Nat) (hc : cap ≤ 1000000000000) (w : World) :
    Calls Tryd.prog 9 #[.int .i64 (cap : Int)] w fun e w' => ∃ k : Dsk, e = .returned (ptr k.d) ∧ Dk w' k ∧ Old w w' ∧ (∀ i ∈ own k, w.heap.size ≤ i) ∧ k.files = [] ∧ k.up = true ∧ k.fuse = none ∧ k.cap = cap := by
  have hif : (if (cap : Int) < 0 then 0 else (cap : Int)) = (cap : Int) := by rw [if_neg (by omega)]
  have hmm := @run_makeMap Tryd.prog
  have HR := Lib.hid (new_dk w cap hc)
  go_enter Tryd.func9, Tryd.ntmps9
  go_wp2_with (go_at_call 27; refine (gate_any _).mono ?_; rintro e w1 ⟨rfl, rfl⟩)
  go_ret
  refine ⟨newK w cap, by simp [newK], HR.out, (old_alloc _ _).al _, ?_, rfl, rfl, rfl, rfl⟩
  intro i hi
  simp only [own, newK, gateB, List.nil_append, List.map_nil, List.mem_cons, List.not_mem_nil, or_false] at hi
  omega
end Go.Proofs.YtilimfbjkgeciaaDoor
