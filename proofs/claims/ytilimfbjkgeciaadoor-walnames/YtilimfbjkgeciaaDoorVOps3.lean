/-
  The gate of a fuse at its last call; Fuse of one call; Rename of the code, without a fuse, and at a fuse's last call. Conditions: the disk lies in memory; lengths as written.
-/
import Derived.Test.YtilimfbjkgeciaaDoorVOps2
namespace Go.Proofs.YtilimfbjkgeciaaDoor
set_option maxRecDepth 100000
open Go.RowKit Go.Maps

set_option maxHeartbeats 2000000 in
theorem cut_yes (k : Dsk) (z : Fz) (hz : k.fuse = some z) (h1 : z.n = 1) (g : Nat) (he : ∀ args w, (callFunc g args).run Tryd.prog w = .ok (.enter g args) w) (caps : Array Value) (w : World) (h : Dk w k) (R : Dsk → Prop) (hR : ∀ k', R k' → k'.fuse = k.fuse ∧ k'.d = k.d) (hodd : z.keep.tmod 2 ≠ 0)
    (hdo : Calls Tryd.prog g caps w fun e w' => e = .returned (.tuple #[]) ∧ ∃ k', R k' ∧ Dk w' k' ∧ Kept k k' w w') :
    Calls Tryd.prog 70 #[.int .i64 0, .func (.func g) #[] caps, ptr z.gn, ptr z.gk, ptr z.gd] w fun e w' => e = .returned (.int .i64 6) ∧ ∃ k', R k' ∧ Dk w' (crashK z.keep k') ∧ Kept k (crashK z.keep k') w w' := by
  have hg := h.gate
  rw [hz] at hg
  obtain ⟨_, _, b2, b3, _, b5⟩ := hg
  rw [h1] at b2
  have c2 : w.cell? ⟨z.gn, 0, none⟩ = some (.int .i64 1) := b2.at_ 0 rfl
  have c3 : w.cell? ⟨z.gk, 0, none⟩ = some (.int .i64 z.keep) := b3.at_ 0 rfl
  have hb1 : (z.keep.tmod 2 == 0) = false := by simpa using hodd
  have HD := Lib.hid hdo
  have HR := Lib.hid hR
  have HC := Lib.hid fun k' w' (h' : Dk w' k') => crash_any k' z.keep w' h'
  clear hdo hR h b2 b3 b5
  go_enter Tryd.func70, Tryd.ntmps70
  go_wp2_with fail
  refine (show Calls Tryd.prog g _ _ _ from HD.out).mono ?_
  rintro e w1 ⟨rfl, k', hk', hd1, hkp⟩
  obtain ⟨e1, e2⟩ := HR.out k' hk'
  have hg := hd1.gate
  rw [e1, hz, e2] at hg
  obtain ⟨_, _, b2, b3, _, b5⟩ := hg
  have d3 : w1.cell? ⟨z.gk, 0, none⟩ = some (.int .i64 z.keep) := b3.at_ 0 rfl
  have d5 : w1.cell? ⟨z.gd, 0, none⟩ = some (ptr k.d) := b5.at_ 0 rfl
  have HC2 := Lib.hid (HC.out k' w1 hd1)
  rw [e2] at HC2
  clear b2 b3 b5 e1 e2
  go_wp2_with fail
  refine HC2.out.mono ?_
  rintro e w2 ⟨rfl, hd2, hk2⟩
  go_wp2
  go_ret
  exact ⟨rfl, k', hk', hd2, hkp.tr hk2⟩

set_option maxHeartbeats 2000000 in
theorem cut_no (k : Dsk) (z : Fz) (hz : k.fuse = some z) (h1 : z.n = 1) (fv : Value) (w : World) (h : Dk w k) (hev : z.keep.tmod 2 = 0) :
    Calls Tryd.prog 70 #[.int .i64 0, fv, ptr z.gn, ptr z.gk, ptr z.gd] w fun e w' => e = .returned (.int .i64 6) ∧ Dk w' (crashK z.keep k) ∧ Kept k (crashK z.keep k) w w' := by
  have hg := h.gate
  rw [hz] at hg
  obtain ⟨_, _, b2, b3, _, b5⟩ := hg
  rw [h1] at b2
  have c2 : w.cell? ⟨z.gn, 0, none⟩ = some (.int .i64 1) := b2.at_ 0 rfl
  have c3 : w.cell? ⟨z.gk, 0, none⟩ = some (.int .i64 z.keep) := b3.at_ 0 rfl
  have c5 : w.cell? ⟨z.gd, 0, none⟩ = some (ptr k.d) := b5.at_ 0 rfl
  have HC := Lib.hid (crash_any k z.keep w h)
  clear h b2 b3 b5
  go_enter Tryd.func70, Tryd.ntmps70
  go_wp2_with fail
  refine HC.out.mono ?_
  rintro e w2 ⟨rfl, hd2, hk2⟩
  go_wp2
  go_ret
  exact ⟨rfl, hd2, hk2⟩

/-- A fuse of one call. -/
def fuseK (k : Dsk) (b : Nat) (keep : Int) : Dsk := { k with fuse := some ⟨1, keep, b + 1, b + 2, b⟩ }
set_option maxHeartbeats 2000000 in
theorem fuse_gate (d : Nat) (n keep : Int) (w : World) :
    Calls Tryd.prog 45 #[ptr d, .int .i64 n, .int .i64 keep] w fun e w' => e = .returned (.func (.func 70) #[] #[ptr (w.heap.size + 1), ptr (w.heap.size + 2), ptr w.heap.size]) ∧ w' = ((w.alloc (.cells #[ptr d] 25)).alloc (.cells #[.int .i64 n] 3)).alloc (.cells #[.int .i64 keep] 3) := by
  have hmf := makeF
  go_enter Tryd.func45, Tryd.ntmps45
  go_wp2
  go_ret
  exact ⟨rfl, rfl⟩

set_option maxHeartbeats 2000000 in
theorem fuse_one (k : Dsk) (keep : Int) (w : World) (h : Dk w k) :
    Calls Tryd.prog 18 #[ptr k.d, .int .i64 1, .int .i64 keep] w fun e w' => e = .returned (.tuple #[]) ∧ ∃ b, Dk w' (fuseK k b keep) ∧ Kept k (fuseK k b keep) w w' := by
  have f3 := h.disk.fr 3
  have c3 := h.disk.at_ 3 rfl
  obtain ⟨W, hW⟩ : ∃ W, W = (((w.setCell ⟨k.d, 3, none⟩ gateO).alloc (.cells #[ptr k.d] 25)).alloc (.cells #[.int .i64 1] 3)).alloc (.cells #[.int .i64 keep] 3) := ⟨_, rfl⟩
  have hsz : (w.setCell ⟨k.d, 3, none⟩ gateO).heap.size = w.heap.size := by simp [World.setCell]
  have hlt := h.disk.lt
  have hWb : ∀ i, i < w.heap.size → i ≠ k.d → W.heap[i]? = w.heap[i]? := fun i hi hne => by
    have o := ((old_alloc (w.setCell ⟨k.d, 3, none⟩ gateO) (.cells #[ptr k.d] 25)).al (.cells #[.int .i64 1] 3)).al (.cells #[.int .i64 keep] 3)
    rw [hW, o.block i (by omega), Below.heap_setCell _ _ _ i hne]
  have hWd : Bk W k.d 61 #[.int .i64 (k.cap : Int), .map (some k.m), .bool k.up, gateO] := by
    rw [hW]
    exact (((h.disk.set_ 3 gateO).old (old_alloc _ _)).old (old_alloc _ _)).old (old_alloc _ _)
  have g0 : Bk W w.heap.size 25 #[ptr k.d] := by
    rw [hW]
    exact ((new_bk' _ _ _ _ hsz.symm).old (old_alloc _ _)).old (old_alloc _ _)
  have g1 : Bk W (w.heap.size + 1) 3 #[.int .i64 1] := by
    rw [hW]
    exact (new_bk' _ _ _ _ (by simp [hsz])).old (old_alloc _ _)
  have g2 : Bk W (w.heap.size + 2) 3 #[.int .i64 keep] := by
    rw [hW]
    exact new_bk' _ _ _ _ (by simp [hsz])
  have hWs : W.heap.size = w.heap.size + 3 := by rw [hW]; simp [hsz]
  have hWo : W.os = w.os ∧ W.tape = w.tape ∧ W.output = w.output := by rw [hW]; exact ⟨rfl, rfl, rfl⟩
  have HR := Lib.hid (show Dk (W.setCell ⟨k.d, 3, none⟩ (gateV (fuseK k w.heap.size keep).fuse)) (fuseK k w.heap.size keep) ∧ Kept k (fuseK k w.heap.size keep) w (W.setCell ⟨k.d, 3, none⟩ (gateV (fuseK k w.heap.size keep).fuse)) by
    have hd : ∀ i, i ≠ k.d → (W.setCell ⟨k.d, 3, none⟩ (gateV (fuseK k w.heap.size keep).fuse)).heap[i]? = W.heap[i]? := fun i hi => Below.heap_setCell _ _ _ i hi
    refine ⟨⟨hWd.set_ 3 _, ?_, fun f hf => ?_, ⟨Nat.le_refl _, (show (1 : Nat) ≤ bigN by decide), (hd (w.heap.size + 1) (by omega)).trans g1, (hd (w.heap.size + 2) (by omega)).trans g2, (show w.heap.size + 1 ≠ w.heap.size + 2 by omega), (hd w.heap.size (by omega)).trans g0⟩, ⟨h.ok.1, h.ok.2, h.ok.3, h.ok.4, h.ok.5, h.ok.6, h.ok.7⟩⟩, ⟨hWo.1, hWo.2.1, hWo.2.2, by simp [World.setCell]; omega, fun i hi hn => ?_, fun i hi => ?_⟩⟩
    · obtain ⟨D, h1, h5⟩ := h.map
      have := h1.lt
      obtain ⟨es, c, h3, h4⟩ := h1
      exact ⟨D, ⟨es, c, ((hd _ h.ne_m).trans (hWb _ this h.ne_m)).trans h3, h4⟩, h5⟩
    · exact ((hd _ (h.ne_f hf)).trans (hWb _ (h.files f hf).lt (h.ne_f hf))).trans (h.files f hf)
    · have hne : i ≠ k.d := fun e => hn (by simp [own, e])
      rw [hd i hne, hWb i hi hne]
    · simp only [own, fuseK, gateB, List.mem_cons, List.mem_append, List.not_mem_nil, or_false] at hi ⊢
      rcases hi with hi | hi | (hi | hi | hi) | hi
      · exact .inl (.inl hi)
      · exact .inl (.inr (.inl hi))
      · exact .inr (by omega)
      · exact .inr (by omega)
      · exact .inr (by omega)
      · exact .inl (.inr (.inr (.inr hi))))
  have d3 := hWd.at_ 3 rfl
  have e3 := hWd.fr 3
  have HG := Lib.hid (fuse_gate k.d 1 keep (w.setCell ⟨k.d, 3, none⟩ gateO))
  rw [hsz, ← hW] at HG
  clear h hWb hWd g0 g1 g2 hWs hWo hW
  go_enter Tryd.func18, Tryd.ntmps18
  go_wp2_with (first | (go_at_call 27; refine (gate_any _).mono ?_; rintro e w1 ⟨rfl, rfl⟩) | (go_at_call 45; refine HG.out.mono ?_; rintro e w2 ⟨rfl, rfl⟩))
  refine bodyPost_end (results_none rfl _ _ _) rfl ?_
  exact ⟨rfl, _, HR.out⟩
end Go.Proofs.YtilimfbjkgeciaaDoor
