/-
  The gate of a fuse of whatever length; Create, Append, Sync, Rename, Delete of a disk with a fuse. Conditions: the disk lies in memory; lengths as written.
-/
import Derived.Test.YtilimfbjkgeciaaDoorVRen
namespace Go.Proofs.YtilimfbjkgeciaaDoor
set_option maxRecDepth 100000
open Go.RowKit Go.Maps

def decZ (z : Fz) : Fz := { z with n := z.n - 1 }
def fuseZ (k : Dsk) (z : Fz) : Dsk := { k with fuse := some z }
theorem own_fuseZ {k : Dsk} {z z' : Fz} (hz : k.fuse = some z) (h1 : z'.gn = z.gn) (h2 : z'.gk = z.gk) (h3 : z'.gd = z.gd) : own (fuseZ k z') = own k := by
  unfold own fuseZ
  simp only
  rw [hz]
  simp [gateB, h1, h2, h3]
/-- One call less. -/
theorem Dk.dec {w : World} {k : Dsk} {z : Fz} (h : Dk w k) (hz : k.fuse = some z) (h1 : 1 < z.n) : Dk (w.setCell ⟨z.gn, 0, none⟩ (.int .i64 ((z.n - 1 : Nat) : Int))) (fuseZ k (decZ z)) ∧ Kept k (fuseZ k (decZ z)) w (w.setCell ⟨z.gn, 0, none⟩ (.int .i64 ((z.n - 1 : Nat) : Int))) := by
  have hg := h.gate
  rw [hz] at hg
  obtain ⟨g1, g1', b2, b3, hne, b5⟩ := hg
  have hd : ∀ i, i ≠ z.gn → (w.setCell ⟨z.gn, 0, none⟩ (.int .i64 ((z.n - 1 : Nat) : Int))).heap[i]? = w.heap[i]? := fun i hi => Below.heap_setCell _ _ _ i hi
  have hdk := h.disk
  rw [hz] at hdk
  refine ⟨⟨(hd _ (Bk.ne h.disk b2 (by decide))).trans hdk, ?_, fun f hf => (hd _ (Bk.ne (h.files f hf) b2 (by decide))).trans (h.files f hf), ⟨(show 1 ≤ z.n - 1 by omega), (show z.n - 1 ≤ bigN by omega), b2.set_ 0 _, (hd _ hne.symm).trans b3, hne, (hd _ (Bk.ne b5 b2 (by decide))).trans b5⟩, ⟨h.ok.1, h.ok.2, h.ok.3, h.ok.4, h.ok.5, h.ok.6, h.ok.7⟩⟩,
    ⟨rfl, rfl, rfl, by simp [World.setCell], fun i _ hn => hd i (fun e => hn ?_), fun i hi => .inl (by rwa [own_fuseZ (z' := decZ z) hz rfl rfl rfl] at hi)⟩⟩
  · obtain ⟨D, ⟨es, c, h3, h4⟩, h5⟩ := h.map
    have hnm : k.m ≠ z.gn := fun e => by
      unfold Bk at b2
      rw [e, b2] at h3
      cases h3
    exact ⟨D, ⟨es, c, (hd _ hnm).trans h3, h4⟩, h5⟩
  · rw [e]
    simp [own, hz, gateB]

/-- A fuse of n calls. -/
def fuseN (k : Dsk) (n b : Nat) (keep : Int) : Dsk := { k with fuse := some ⟨n, keep, b + 1, b + 2, b⟩ }
set_option maxHeartbeats 2000000 in
theorem fuse_set (k : Dsk) (n : Nat) (hn1 : 1 ≤ n) (hnb : n ≤ bigN) (keep : Int) (w : World) (h : Dk w k) :
    Calls Tryd.prog 18 #[ptr k.d, .int .i64 (n : Int), .int .i64 keep] w fun e w' => e = .returned (.tuple #[]) ∧ ∃ b, Dk w' (fuseN k n b keep) ∧ Kept k (fuseN k n b keep) w w' := by
  have f3 := h.disk.fr 3
  have c3 := h.disk.at_ 3 rfl
  obtain ⟨W, hW⟩ : ∃ W, W = (((w.setCell ⟨k.d, 3, none⟩ gateO).alloc (.cells #[ptr k.d] 25)).alloc (.cells #[.int .i64 (n : Int)] 3)).alloc (.cells #[.int .i64 keep] 3) := ⟨_, rfl⟩
  have hsz : (w.setCell ⟨k.d, 3, none⟩ gateO).heap.size = w.heap.size := by simp [World.setCell]
  have hlt := h.disk.lt
  have hWb : ∀ i, i < w.heap.size → i ≠ k.d → W.heap[i]? = w.heap[i]? := fun i hi hne => by
    have o := ((old_alloc (w.setCell ⟨k.d, 3, none⟩ gateO) (.cells #[ptr k.d] 25)).al (.cells #[.int .i64 (n : Int)] 3)).al (.cells #[.int .i64 keep] 3)
    rw [hW, o.block i (by omega), Below.heap_setCell _ _ _ i hne]
  have hWd : Bk W k.d 61 #[.int .i64 (k.cap : Int), .map (some k.m), .bool k.up, gateO] := by
    rw [hW]
    exact (((h.disk.set_ 3 gateO).old (old_alloc _ _)).old (old_alloc _ _)).old (old_alloc _ _)
  have g0 : Bk W w.heap.size 25 #[ptr k.d] := by
    rw [hW]
    exact ((new_bk' _ _ _ _ hsz.symm).old (old_alloc _ _)).old (old_alloc _ _)
  have g1 : Bk W (w.heap.size + 1) 3 #[.int .i64 (n : Int)] := by
    rw [hW]
    exact (new_bk' _ _ _ _ (by simp [hsz])).old (old_alloc _ _)
  have g2 : Bk W (w.heap.size + 2) 3 #[.int .i64 keep] := by
    rw [hW]
    exact new_bk' _ _ _ _ (by simp [hsz])
  have hWs : W.heap.size = w.heap.size + 3 := by rw [hW]; simp [hsz]
  have hWo : W.os = w.os ∧ W.tape = w.tape ∧ W.output = w.output := by rw [hW]; exact ⟨rfl, rfl, rfl⟩
  have HR := Lib.hid (show Dk (W.setCell ⟨k.d, 3, none⟩ (gateV (fuseN k n w.heap.size keep).fuse)) (fuseN k n w.heap.size keep) ∧ Kept k (fuseN k n w.heap.size keep) w (W.setCell ⟨k.d, 3, none⟩ (gateV (fuseN k n w.heap.size keep).fuse)) by
    have hd : ∀ i, i ≠ k.d → (W.setCell ⟨k.d, 3, none⟩ (gateV (fuseN k n w.heap.size keep).fuse)).heap[i]? = W.heap[i]? := fun i hi => Below.heap_setCell _ _ _ i hi
    refine ⟨⟨hWd.set_ 3 _, ?_, fun f hf => ?_, ⟨hn1, hnb, (hd (w.heap.size + 1) (by omega)).trans g1, (hd (w.heap.size + 2) (by omega)).trans g2, (show w.heap.size + 1 ≠ w.heap.size + 2 by omega), (hd w.heap.size (by omega)).trans g0⟩, ⟨h.ok.1, h.ok.2, h.ok.3, h.ok.4, h.ok.5, h.ok.6, h.ok.7⟩⟩, ⟨hWo.1, hWo.2.1, hWo.2.2, by simp [World.setCell]; omega, fun i hi hn => ?_, fun i hi => ?_⟩⟩
    · obtain ⟨D, h1, h5⟩ := h.map
      have := h1.lt
      obtain ⟨es, c, h3, h4⟩ := h1
      exact ⟨D, ⟨es, c, ((hd _ h.ne_m).trans (hWb _ this h.ne_m)).trans h3, h4⟩, h5⟩
    · exact ((hd _ (h.ne_f hf)).trans (hWb _ (h.files f hf).lt (h.ne_f hf))).trans (h.files f hf)
    · have hne : i ≠ k.d := fun e => hn (by simp [own, e])
      rw [hd i hne, hWb i hi hne]
    · simp only [own, fuseN, gateB, List.mem_cons, List.mem_append, List.not_mem_nil, or_false] at hi ⊢
      rcases hi with hi | hi | (hi | hi | hi) | hi
      · exact .inl (.inl hi)
      · exact .inl (.inr (.inl hi))
      · exact .inr (by omega)
      · exact .inr (by omega)
      · exact .inr (by omega)
      · exact .inl (.inr (.inr (.inr hi))))
  have d3 := hWd.at_ 3 rfl
  have e3 := hWd.fr 3
  have HG := Lib.hid (fuse_gate k.d n keep (w.setCell ⟨k.d, 3, none⟩ gateO))
  rw [hsz, ← hW] at HG
  clear h hWb hWd g0 g1 g2 hWs hWo hW hnb
  have hnI : decide ((1 : Int) ≤ (n : Int)) = true := by simp; omega
  go_enter Tryd.func18, Tryd.ntmps18
  go_wp2_with (first | (go_at_call 27; refine (gate_any _).mono ?_; rintro e w1 ⟨rfl, rfl⟩) | (go_at_call 45; refine HG.out.mono ?_; rintro e w2 ⟨rfl, rfl⟩))
  refine bodyPost_end (results_none rfl _ _ _) rfl ?_
  exact ⟨rfl, _, HR.out⟩
/-- No fuse. -/
def fuseO (k : Dsk) : Dsk := { k with fuse := none }
set_option maxHeartbeats 2000000 in
theorem fuse_off (k : Dsk) (n keep : Int) (hn : n < 1) (w : World) (h : Dk w k) :
    Calls Tryd.prog 18 #[ptr k.d, .int .i64 n, .int .i64 keep] w fun e w' => e = .returned (.tuple #[]) ∧ Dk w' (fuseO k) ∧ Kept k (fuseO k) w w' := by
  have f3 := h.disk.fr 3
  have c3 := h.disk.at_ 3 rfl
  have hd : ∀ i, i ≠ k.d → (w.setCell ⟨k.d, 3, none⟩ gateO).heap[i]? = w.heap[i]? := fun i hi => Below.heap_setCell _ _ _ i hi
  have HR := Lib.hid (show Dk (w.setCell ⟨k.d, 3, none⟩ gateO) (fuseO k) ∧ Kept k (fuseO k) w (w.setCell ⟨k.d, 3, none⟩ gateO) by
    refine ⟨⟨h.disk.set_ 3 _, ?_, fun f hf => (hd _ (h.ne_f hf)).trans (h.files f hf), trivial, ⟨h.ok.1, h.ok.2, h.ok.3, h.ok.4, h.ok.5, h.ok.6, h.ok.7⟩⟩, ⟨rfl, rfl, rfl, by simp [World.setCell], fun i _ hn => hd i (fun e => hn (by simp [own, e])), fun i hi => .inl ?_⟩⟩
    · obtain ⟨D, ⟨es, c, h3, h4⟩, h5⟩ := h.map
      exact ⟨D, ⟨es, c, (hd _ h.ne_m).trans h3, h4⟩, h5⟩
    · simp only [own, fuseO, gateB, List.nil_append, List.mem_cons, List.mem_append] at hi ⊢
      rcases hi with hi | hi | hi
      · exact .inl hi
      · exact .inr (.inl hi)
      · exact .inr (.inr (.inr hi)))
  have hnI : decide ((1 : Int) ≤ n) = false := by rw [decide_eq_false_iff_not]; omega
  clear hd h
  go_enter Tryd.func18, Tryd.ntmps18
  go_wp2_with (first | (go_at_call 27; refine (gate_any _).mono ?_; rintro e w1 ⟨rfl, rfl⟩))
  refine bodyPost_end (results_none rfl _ _ _) rfl ?_
  exact ⟨rfl, HR.out⟩

/-- What a call that is let through a fuse's gate comes to. -/
def FzR (k : Dsk) (z : Fz) (always : Bool) (R : Dsk → Dsk → Prop) (x : Int) (k' : Dsk) : Prop :=
  (1 < z.n ∧ x = 0 ∧ R (fuseZ k (decZ z)) k') ∨ (z.n = 1 ∧ x = 6 ∧ (always = true ∨ z.keep.tmod 2 ≠ 0) ∧ ∃ k1, R k k1 ∧ k' = crashK z.keep k1) ∨ (z.n = 1 ∧ x = 6 ∧ always = false ∧ z.keep.tmod 2 = 0 ∧ k' = crashK z.keep k)
def cutV (always : Bool) : Int := if always then 1 else 0

set_option maxHeartbeats 2000000 in
theorem more_any (k : Dsk) (z : Fz) (hz : k.fuse = some z) (g : Nat) (he : ∀ args w, (callFunc g args).run Tryd.prog w = .ok (.enter g args) w) (caps : Array Value) (w : World) (h : Dk w k) (h1 : 1 < z.n) (cut : Int) (R : Dsk → Prop)
    (hdo : ∀ w1, Dk w1 (fuseZ k (decZ z)) → Kept k (fuseZ k (decZ z)) w w1 → Calls Tryd.prog g caps w1 fun e w' => e = .returned (.tuple #[]) ∧ ∃ k', R k' ∧ Dk w' k' ∧ Kept (fuseZ k (decZ z)) k' w1 w') :
    Calls Tryd.prog 70 #[.int .i64 cut, .func (.func g) #[] caps, ptr z.gn, ptr z.gk, ptr z.gd] w fun e w' => e = .returned (.int .i64 0) ∧ ∃ k', R k' ∧ Dk w' k' ∧ Kept k k' w w' := by
  have hg := h.gate
  rw [hz] at hg
  obtain ⟨g1, g1', b2, -, -, -⟩ := hg
  obtain ⟨hd1, hkp1⟩ := h.dec hz h1
  have c2 : w.cell? ⟨z.gn, 0, none⟩ = some (.int .i64 (z.n : Int)) := b2.at_ 0 rfl
  have f2 := b2.fr 0
  have hnI : decide ((1 : Int) < (z.n : Int)) = true := by simp; omega
  have hsub : (z.n : Int) - 1 = ((z.n - 1 : Nat) : Int) := by omega
  have hwr : IntKind.i64.wrap ((z.n : Int) - 1) = (z.n : Int) - 1 := by unfold bigN at g1'; rw [IntKind.wrap_i64]; omega
  have HD := Lib.hid (hdo _ hd1 hkp1)
  have HK := Lib.hid hkp1
  rw [← hsub] at HD HK
  clear hdo h b2 hd1 hkp1 hsub g1'
  go_enter Tryd.func70, Tryd.ntmps70
  go_wp2_with fail
  refine (show Calls Tryd.prog g _ _ _ from HD.out).mono ?_
  rintro e w1 ⟨rfl, k', hk', hd1, hkp⟩
  go_wp2
  go_ret
  exact ⟨rfl, k', hk', hd1, HK.out.tr hkp⟩

set_option maxHeartbeats 2000000 in
theorem cut_always (k : Dsk) (z : Fz) (hz : k.fuse = some z) (g : Nat) (he : ∀ args w, (callFunc g args).run Tryd.prog w = .ok (.enter g args) w) (caps : Array Value) (w : World) (h : Dk w k) (h1 : z.n = 1) (R : Dsk → Prop) (hR : ∀ k', R k' → k'.fuse = k.fuse ∧ k'.d = k.d)
    (hdo : Calls Tryd.prog g caps w fun e w' => e = .returned (.tuple #[]) ∧ ∃ k', R k' ∧ Dk w' k' ∧ Kept k k' w w') :
    Calls Tryd.prog 70 #[.int .i64 1, .func (.func g) #[] caps, ptr z.gn, ptr z.gk, ptr z.gd] w fun e w' => e = .returned (.int .i64 6) ∧ ∃ k', R k' ∧ Dk w' (crashK z.keep k') ∧ Kept k (crashK z.keep k') w w' := by
  have hg := h.gate
  rw [hz] at hg
  obtain ⟨_, _, b2, b3, _, b5⟩ := hg
  rw [h1] at b2
  have c2 : w.cell? ⟨z.gn, 0, none⟩ = some (.int .i64 1) := b2.at_ 0 rfl
  have HD := Lib.hid hdo
  have HR := Lib.hid hR
  have HC := Lib.hid fun k' w' (h' : Dk w' k') => crash_any k' z.keep w' h'
  clear hdo hR h b2 b3 b5
  go_enter Tryd.func70, Tryd.ntmps70
  go_wp2_with fail
  refine (show Calls Tryd.prog g _ _ _ from HD.out).mono ?_
  rintro e w1 ⟨rfl, k', hk', hd1, hkp⟩
  obtain ⟨e1, e2⟩ := HR.out k' hk'
  have hg := hd1.gate
  rw [e1, hz, e2] at hg
  obtain ⟨_, _, b2, b3, _, b5⟩ := hg
  have d3 : w1.cell? ⟨z.gk, 0, none⟩ = some (.int .i64 z.keep) := b3.at_ 0 rfl
  have d5 : w1.cell? ⟨z.gd, 0, none⟩ = some (ptr k.d) := b5.at_ 0 rfl
  have HC2 := Lib.hid (HC.out k' w1 hd1)
  rw [e2] at HC2
  clear b2 b3 b5 e1 e2
  go_wp2_with fail
  refine HC2.out.mono ?_
  rintro e w2 ⟨rfl, hd2, hk2⟩
  go_wp2
  go_ret
  exact ⟨rfl, k', hk', hd2, hkp.tr hk2⟩

theorem gate_fz (k : Dsk) (z : Fz) (hz : k.fuse = some z) (g : Nat) (he : ∀ args w, (callFunc g args).run Tryd.prog w = .ok (.enter g args) w) (caps : Array Value) (w : World) (h : Dk w k) (always : Bool) (R : Dsk → Dsk → Prop) (hR : ∀ k', R k k' → k'.fuse = k.fuse ∧ k'.d = k.d)
    (hdo : ∀ k0 w0, (k0 = k ∨ k0 = fuseZ k (decZ z)) → Dk w0 k0 → Kept k k0 w w0 → Calls Tryd.prog g caps w0 fun e w' => e = .returned (.tuple #[]) ∧ ∃ k', R k0 k' ∧ Dk w' k' ∧ Kept k0 k' w0 w') :
    Calls Tryd.prog 70 #[.int .i64 (cutV always), .func (.func g) #[] caps, ptr z.gn, ptr z.gk, ptr z.gd] w fun e w' => ∃ x k', e = .returned (.int .i64 x) ∧ FzR k z always R x k' ∧ Dk w' k' ∧ Kept k k' w w' := by
  have hg := h.gate
  rw [hz] at hg
  have hn := hg.1
  by_cases h1 : 1 < z.n
  · refine (more_any k z hz g he caps w h h1 _ (R (fuseZ k (decZ z))) (fun w1 hd hk => hdo _ w1 (.inr rfl) hd hk)).mono ?_
    rintro e w' ⟨e1, k', r, hd, hk⟩
    exact ⟨0, k', e1, .inl ⟨h1, rfl, r⟩, hd, hk⟩
  · have h1' : z.n = 1 := by omega
    have hdo1 := hdo k w (.inl rfl) h (Kept.re k w)
    cases always with
    | true =>
      refine (cut_always k z hz g he caps w h h1' (R k) hR hdo1).mono ?_
      rintro e w' ⟨e1, k', r, hd, hk⟩
      exact ⟨6, _, e1, .inr (.inl ⟨h1', rfl, .inl rfl, k', r, rfl⟩), hd, hk⟩
    | false =>
      by_cases ho : z.keep.tmod 2 = 0
      · refine (cut_no k z hz h1' _ w h ho).mono ?_
        rintro e w' ⟨e1, hd, hk⟩
        exact ⟨6, _, e1, .inr (.inr ⟨h1', rfl, rfl, ho, rfl⟩), hd, hk⟩
      · refine (cut_yes k z hz h1' g he caps w h (R k) hR ho hdo1).mono ?_
        rintro e w' ⟨e1, k', r, hd, hk⟩
        exact ⟨6, _, e1, .inr (.inl ⟨h1', rfl, .inr ho, k', r, rfl⟩), hd, hk⟩

set_option maxHeartbeats 2000000 in
theorem create_fz (k : Dsk) (s : List UInt8) (w : World) (h : Dk w k) (z : Fz) (hz : k.fuse = some z) (hu : k.up = true) (hb : bad s = false) (hf : fnd k.files s = none) (hl : k.files.length < 200) :
    Calls Tryd.prog 55 #[ptr k.d, .string (B s)] w fun e w' => ∃ x k', e = .returned (.int .i64 x) ∧ FzR k z false (fun k0 k' => ∃ b, k' = withF k0 (put ⟨s, b, [], 0⟩ k0.files)) x k' ∧ Dk w' k' ∧ Kept k k' w w' := by
  have hs1 := bad_no hb
  have hs : s.length ≤ 100000 := by omega
  have hr0 : rdyE k [s] = 0 := by unfold rdyE; simp [hu, hb]
  have HR := Lib.hid (ready1' k s hs)
  rw [hr0] at HR
  have H := Lib.hid h
  obtain ⟨D, hown0, hR0⟩ := h.map
  have hmany := h.ok.many
  clear h hr0
  go_enter Tryd.func55, Tryd.ntmps55
  go_wp2_with fail
  refine (HR.out _ _ (((H.out.al _).al _).al _) (new_bk' _ _ _ _ (by simp))).mono ?_
  rintro e w1 ⟨rfl, rfl⟩
  have hk := ((H.out.al (.cells #[ptr k.d] 25)).al (.cells #[.string (B s)] 9)).al (.cells #[.string (B s)] 9)
  have bd : Bk (((w.alloc (.cells #[ptr k.d] 25)).alloc (.cells #[.string (B s)] 9)).alloc (.cells #[.string (B s)] 9)) w.heap.size 25 #[ptr k.d] := ((new_bk w _ _).old (old_alloc _ _)).old (old_alloc _ _)
  have bn : Bk (((w.alloc (.cells #[ptr k.d] 25)).alloc (.cells #[.string (B s)] 9)).alloc (.cells #[.string (B s)] 9)) (w.heap.size + 1) 9 #[.string (B s)] := (new_bk' (w.alloc (.cells #[ptr k.d] 25)) _ _ _ (by simp)).old (old_alloc _ _)
  have ho := ((old_alloc w (.cells #[ptr k.d] 25)).al (.cells #[.string (B s)] 9)).al (.cells #[.string (B s)] 9)
  generalize ((w.alloc (.cells #[ptr k.d] 25)).alloc (.cells #[.string (B s)] 9)).alloc (.cells #[.string (B s)] 9) = W at hk bd bn ho ⊢
  have c1 : W.cell? ⟨k.d, 1, none⟩ = some (.map (some k.m)) := hk.disk.at_ 1 rfl
  have d1 := bd.at_ 0 rfl
  have d2 := bn.at_ 0 rfl
  have hlook := hk.drew.look s (by omega)
  unfold fptr at hlook
  rw [hf] at hlook
  go_wp2
  go_still (by kernel_rfl)
  change Exit.then _ _ _ _ W.drew
  have hk2 := hk.drew
  have bd2 : Bk W.drew w.heap.size 25 #[ptr k.d] := bd
  have bn2 : Bk W.drew (w.heap.size + 1) 9 #[.string (B s)] := bn
  have ho2 := ho.dr
  clear hlook d1 d2 c1 hk bd bn ho
  generalize W.drew = W2 at hk2 bd2 bn2 ho2 ⊢
  have c1 : W2.cell? ⟨k.d, 1, none⟩ = some (.map (some k.m)) := hk2.disk.at_ 1 rfl
  have d1 := bd2.at_ 0 rfl
  have hlen : ∀ ty, (Builtin.len_ #[56] ty #[.map (some k.m)]).run Tryd.prog W2 = .ok (.int .i64 (k.files.length : Int)) W2 := by
    intro ty
    obtain ⟨D, h1, h2⟩ := hk2.map
    rw [← h2.size]
    exact h1.len Tryd.underlying56 ty
  have hge : decide ((200 : Int) ≤ (k.files.length : Int)) = false := by simp; omega
  have c3 : W2.cell? ⟨k.d, 3, none⟩ = some (gateV k.fuse) := hk2.disk.at_ 3 rfl
  rw [hz] at c3
  have c3' : W2.cell? ⟨k.d, 3, none⟩ = some (.func (.func 70) #[] #[ptr z.gn, ptr z.gk, ptr z.gd]) := c3
  have hn1 : w.heap.size ∉ own k := H.out.newer (Nat.le_refl _)
  have hn2 : w.heap.size + 1 ∉ own k := H.out.newer (Nat.le_succ _)
  have HC := Lib.hid (gate_fz k z hz 75 (enters_of Tryd.func75 (by kernel_rfl) rfl) _ W2 hk2 false (fun k0 k' => ∃ b, k' = withF k0 (put ⟨s, b, [], 0⟩ k0.files)) (fun k' hx => by obtain ⟨b, rfl⟩ := hx; exact ⟨rfl, rfl⟩) (fun k0 w0 ho0 hd hkp => (create1_any k0 s hs1 _ _ w0 hd (by rcases ho0 with rfl | rfl <;> exact hkp.bk bd2 hn1) (hkp.bk bn2 hn2) (by rcases ho0 with rfl | rfl <;> exact hl)).mono fun e w' ⟨e1, b, h2, h3⟩ => ⟨e1, _, ⟨_, rfl⟩, h2, h3⟩))
  have hmf := makeF
  clear c3 bd2 bn2
  go_wp2_with fail
  refine HC.out.mono ?_
  rintro e w3 ⟨x, k', rfl, hr, h4, hk4⟩
  go_wp2
  go_ret
  exact ⟨x, k', rfl, hr, h4, (Kept.of_old ho2).tr hk4⟩

set_option maxHeartbeats 2000000 in
theorem append_fz (k : Dsk) (s t : List UInt8) (w : World) (h : Dk w k) (z : Fz) (hz : k.fuse = some z) (hu : k.up = true) (hb : bad s = false) (f : Fl) (hf : fnd k.files s = some f) (hl : total k.files + t.length ≤ k.cap) :
    Calls Tryd.prog 40 #[ptr k.d, .string (B s), .string (B t)] w fun e w' => ∃ x k', e = .returned (.int .i64 x) ∧ FzR k z true (fun k0 k' => k' = setK k0 f.blk (f.s ++ t) f.n) x k' ∧ Dk w' k' ∧ Kept k k' w w' := by
  obtain ⟨e1, e2⟩ := fndE_of hu hb hf
  have hs1 := bad_no hb
  have HF := Lib.hid (find_any k s (by omega))
  rw [e1, e2] at HF
  have H := Lib.hid h
  have hcap := h.ok.capb
  have hroom := h.ok.room
  clear h e1 e2
  go_enter Tryd.func40, Tryd.ntmps40
  go_wp2_with fail
  refine (HF.out _ (H.out.al _)).mono ?_
  rintro e w1 ⟨rfl, o1⟩
  have hk := (H.out.al (.cells #[.string (B t)] 9)).old o1
  have bt : Bk w1 w.heap.size 9 #[.string (B t)] := (new_bk w _ _).old o1
  have ho := (old_alloc w (.cells #[.string (B t)] 9)).tr o1
  clear o1
  have hk2 := hk.al (.cells #[ptr f.blk] 81)
  have bt2 := bt.old (old_alloc w1 (.cells #[ptr f.blk] 81))
  have bf2 := new_bk w1 81 #[ptr f.blk]
  have ho2 := ho.al (.cells #[ptr f.blk] 81)
  clear hk bt ho
  go_wp2
  generalize w1.alloc (.cells #[ptr f.blk] 81) = W at hk2 bt2 bf2 ho2 ⊢
  have HZ := Lib.hid fun (W' : World) (o : Old W W') => size_any k W' (hk2.old o)
  have c0 : W.cell? ⟨k.d, 0, none⟩ = some (.int .i64 (k.cap : Int)) := hk2.disk.at_ 0 rfl
  have d2 : W.cell? ⟨w.heap.size, 0, none⟩ = some (.string (B t)) := bt2.at_ 0 rfl
  have hS : Old W W ∧ W.cell? ⟨k.d, 0, none⟩ = some (.int .i64 (k.cap : Int)) ∧ W.cell? ⟨w.heap.size, 0, none⟩ = some (.string (B t)) := ⟨Old.re _, c0, d2⟩
  have wr : IntKind.i64.wrap ((total k.files : Int) + (t.length : Int)) = (total k.files : Int) + (t.length : Int) := by rw [IntKind.wrap_i64]; omega
  go_region_held3 (fun W' => Old W W' ∧ W'.cell? ⟨k.d, 0, none⟩ = some (.int .i64 (k.cap : Int)) ∧ W'.cell? ⟨w.heap.size, 0, none⟩ = some (.string (B t))) (first | exact ⟨hS.1.dr, hS.2⟩ | exact app_keep (by assumption) (by assumption))
    (first
      | (go_at_call 25; with_reducible refine (HZ.out _ (And.left (by assumption))).mono ?_; rintro r w3 ⟨rfl, h3⟩))
  have f3 : Old W w3 := And.left (by assumption)
  have hgt : decide ((k.cap : Int) < (total k.files : Int) + (t.length : Int)) = false := by simp; omega
  clear wr hS c0 d2
  have hk3 := hk2.old f3
  have ho3 := ho2.tr f3
  have hn1 := hk3.other (bf2.old f3) (by decide) (by decide) (by decide) (by decide)
  have hn2 := hk3.other (bt2.old f3) (by decide) (by decide) (by decide) (by decide)
  have HC := Lib.hid (gate_fz k z hz 68 (enters_of Tryd.func68 (by kernel_rfl) rfl) _ w3 hk3 true (fun k0 k' => k' = setK k0 f.blk (f.s ++ t) f.n) (fun k' hx => by subst hx; exact ⟨rfl, rfl⟩) (fun k0 w0 ho0 hd hkp => (append1_any k0 f t _ _ w0 hd (by rcases ho0 with rfl | rfl <;> exact fnd_mem hf) (hkp.bk (bf2.old f3) hn1) (hkp.bk (bt2.old f3) hn2) (by rcases ho0 with rfl | rfl <;> exact hl)).mono fun e w' ⟨e1, h2, h3⟩ => ⟨e1, _, rfl, h2, h3⟩))
  have c3 : w3.cell? ⟨k.d, 3, none⟩ = some (gateV k.fuse) := hk3.disk.at_ 3 rfl
  rw [hz] at c3
  have c3' : w3.cell? ⟨k.d, 3, none⟩ = some (.func (.func 70) #[] #[ptr z.gn, ptr z.gk, ptr z.gd]) := c3
  have hmf := makeF
  clear c3
  go_wp2_with fail
  refine HC.out.mono ?_
  rintro e w4 ⟨x, k', rfl, hr, h4, hk4⟩
  go_wp2
  go_ret
  exact ⟨x, k', rfl, hr, h4, (Kept.of_old ho3).tr hk4⟩

set_option maxHeartbeats 2000000 in
theorem sync_fz (k : Dsk) (s : List UInt8) (w : World) (h : Dk w k) (z : Fz) (hz : k.fuse = some z) (hu : k.up = true) (hb : bad s = false) (f : Fl) (hf : fnd k.files s = some f) :
    Calls Tryd.prog 30 #[ptr k.d, .string (B s)] w fun e w' => ∃ x k', e = .returned (.int .i64 x) ∧ FzR k z false (fun k0 k' => k' = setK k0 f.blk f.s f.s.length) x k' ∧ Dk w' k' ∧ Kept k k' w w' := by
  obtain ⟨e1, e2⟩ := fndE_of hu hb hf
  have hs1 := bad_no hb
  have HF := Lib.hid (find_any k s (by omega))
  rw [e1, e2] at HF
  have H := Lib.hid h
  clear h e1 e2
  go_enter Tryd.func30, Tryd.ntmps30
  go_wp2_with fail
  refine (HF.out _ H.out).mono ?_
  rintro e w1 ⟨rfl, o1⟩
  have hk2 := (H.out.old o1).al (.cells #[ptr f.blk] 81)
  have bf2 := new_bk w1 81 #[ptr f.blk]
  have ho2 := o1.al (.cells #[ptr f.blk] 81)
  clear o1
  have hn1 := hk2.other bf2 (by decide) (by decide) (by decide) (by decide)
  have HC := Lib.hid (gate_fz k z hz 51 (enters_of Tryd.func51 (by kernel_rfl) rfl) _ (w1.alloc (.cells #[ptr f.blk] 81)) hk2 false (fun k0 k' => k' = setK k0 f.blk f.s f.s.length) (fun k' hx => by subst hx; exact ⟨rfl, rfl⟩) (fun k0 w0 ho0 hd hkp => (sync1_any k0 f _ w0 hd (by rcases ho0 with rfl | rfl <;> exact fnd_mem hf) (hkp.bk bf2 hn1)).mono fun e w' ⟨e1, h2, h3⟩ => ⟨e1, _, rfl, h2, h3⟩))
  have c3 : (w1.alloc (.cells #[ptr f.blk] 81)).cell? ⟨k.d, 3, none⟩ = some (gateV k.fuse) := hk2.disk.at_ 3 rfl
  rw [hz] at c3
  have c3' : (w1.alloc (.cells #[ptr f.blk] 81)).cell? ⟨k.d, 3, none⟩ = some (.func (.func 70) #[] #[ptr z.gn, ptr z.gk, ptr z.gd]) := c3
  have hmf := makeF
  clear c3
  clear bf2 hk2
  go_wp2_with fail
  refine HC.out.mono ?_
  rintro e w4 ⟨x, k', rfl, hr, h4, hk4⟩
  go_wp2
  go_ret
  exact ⟨x, k', rfl, hr, h4, (Kept.of_old ho2).tr hk4⟩

set_option maxHeartbeats 2000000 in
theorem delete_fz (k : Dsk) (s : List UInt8) (w : World) (h : Dk w k) (z : Fz) (hz : k.fuse = some z) (hu : k.up = true) (hb : bad s = false) (f : Fl) (hf : fnd k.files s = some f) :
    Calls Tryd.prog 53 #[ptr k.d, .string (B s)] w fun e w' => ∃ x k', e = .returned (.int .i64 x) ∧ FzR k z false (fun k0 k' => k' = withF k0 (del s k0.files)) x k' ∧ Dk w' k' ∧ Kept k k' w w' := by
  obtain ⟨e1, e2⟩ := fndE_of hu hb hf
  have hs1 := bad_no hb
  have HF := Lib.hid (find_any k s (by omega))
  rw [e1, e2] at HF
  have H := Lib.hid h
  clear h e1 e2
  go_enter Tryd.func53, Tryd.ntmps53
  go_wp2_with fail
  refine (HF.out _ ((H.out.al _).al _)).mono ?_
  rintro e w1 ⟨rfl, o1⟩
  have hk2 := ((H.out.al (.cells #[ptr k.d] 25)).al (.cells #[.string (B s)] 9)).old o1
  have bd2 : Bk w1 w.heap.size 25 #[ptr k.d] := ((new_bk w _ _).old (old_alloc _ _)).old o1
  have bn2 : Bk w1 (w.heap.size + 1) 9 #[.string (B s)] := (new_bk' (w.alloc (.cells #[ptr k.d] 25)) _ _ _ (by simp)).old o1
  have ho2 := ((old_alloc w (.cells #[ptr k.d] 25)).al (.cells #[.string (B s)] 9)).tr o1
  clear o1
  have d1 := bd2.at_ 0 rfl
  have hn1 : w.heap.size ∉ own k := H.out.newer (Nat.le_refl _)
  have hn2 : w.heap.size + 1 ∉ own k := H.out.newer (Nat.le_succ _)
  have HC := Lib.hid (gate_fz k z hz 74 (enters_of Tryd.func74 (by kernel_rfl) rfl) _ w1 hk2 false (fun k0 k' => k' = withF k0 (del s k0.files)) (fun k' hx => by subst hx; exact ⟨rfl, rfl⟩) (fun k0 w0 ho0 hd hkp => (delete1_any k0 s (by omega) _ _ w0 hd (by rcases ho0 with rfl | rfl <;> exact hkp.bk bd2 hn1) (hkp.bk bn2 hn2)).mono fun e w' ⟨e1, h2, h3⟩ => ⟨e1, _, rfl, h2, h3⟩))
  have c3 : w1.cell? ⟨k.d, 3, none⟩ = some (gateV k.fuse) := hk2.disk.at_ 3 rfl
  rw [hz] at c3
  have c3' : w1.cell? ⟨k.d, 3, none⟩ = some (.func (.func 70) #[] #[ptr z.gn, ptr z.gk, ptr z.gd]) := c3
  have hmf := makeF
  clear c3
  clear bd2 bn2 hk2
  go_wp2_with fail
  refine HC.out.mono ?_
  rintro e w4 ⟨x, k', rfl, hr, h4, hk4⟩
  go_wp2
  go_ret
  exact ⟨x, k', rfl, hr, h4, (Kept.of_old ho2).tr hk4⟩

set_option maxHeartbeats 2000000 in
theorem rename_fz (k : Dsk) (s t : List UInt8) (w : World) (h : Dk w k) (z : Fz) (hz : k.fuse = some z) (hu : k.up = true) (hb : bad s = false) (hbt : bad t = false) (f : Fl) (hf : fnd k.files s = some f) :
    Calls Tryd.prog 59 #[ptr k.d, .string (B s), .string (B t)] w fun e w' => ∃ x k', e = .returned (.int .i64 x) ∧ FzR k z false (fun k0 k' => k' = renK k0 f t) x k' ∧ Dk w' k' ∧ Kept k k' w w' := by
  have hr0 : rdyE k [s, t] = 0 := by unfold rdyE; simp [hu, hb, hbt]
  obtain ⟨e1, e2⟩ := fndE_of hu hb hf
  have hs1 := bad_no hb
  have ht1 := bad_no hbt
  have hs : s.length ≤ 100000 := by omega
  have ht : t.length ≤ 100000 := by omega
  have HF := Lib.hid (find_any k s hs)
  rw [e1, e2] at HF
  have HR := Lib.hid (ready2' k s t hs ht)
  rw [hr0] at HR
  have H := Lib.hid h
  have HFM := Lib.hid (fnd_mem hf)
  have HFN := Lib.hid (fnd_name hf)
  clear hr0 e1 e2 hf
  clear h
  go_enter Tryd.func59, Tryd.ntmps59
  go_wp2_with fail
  refine (HR.out _ _ ((((H.out.al _).al _).al _).al _) (new_bk' _ _ _ _ (by simp))).mono ?_
  rintro e w1 ⟨rfl, rfl⟩
  have hk := (((H.out.al (ob1 k)).al (ob2 s)).al (ob2 t)).al (ob4 s t)
  have bd : Bk ((((w.alloc (ob1 k)).alloc (ob2 s)).alloc (ob2 t)).alloc (ob4 s t)) w.heap.size 25 #[ptr k.d] := (((new_bk w _ _).old (old_alloc _ _)).old (old_alloc _ _)).old (old_alloc _ _)
  have bs : Bk ((((w.alloc (ob1 k)).alloc (ob2 s)).alloc (ob2 t)).alloc (ob4 s t)) (w.heap.size + 1) 9 #[.string (B s)] := ((new_bk' (w.alloc (ob1 k)) _ _ _ (by simp)).old (old_alloc _ _)).old (old_alloc _ _)
  have bt : Bk ((((w.alloc (ob1 k)).alloc (ob2 s)).alloc (ob2 t)).alloc (ob4 s t)) (w.heap.size + 2) 9 #[.string (B t)] := (new_bk' ((w.alloc (ob1 k)).alloc (ob2 s)) _ _ _ (by simp)).old (old_alloc _ _)
  have ho := (((old_alloc w (ob1 k)).al (ob2 s)).al (ob2 t)).al (ob4 s t)
  generalize (((w.alloc (ob1 k)).alloc (ob2 s)).alloc (ob2 t)).alloc (ob4 s t) = W at hk bd bs bt ho ⊢
  have d1 : W.cell? ⟨w.heap.size, 0, none⟩ = some (ptr k.d) := bd.at_ 0 rfl
  have d2 : W.cell? ⟨w.heap.size + 1, 0, none⟩ = some (.string (B s)) := bs.at_ 0 rfl
  go_wp2_with fail
  refine (HF.out _ hk).mono ?_
  rintro e w1 ⟨rfl, o1⟩
  have hk2 := (hk.old o1).al (.cells #[ptr f.blk] 81)
  have bf2 := new_bk w1 81 #[ptr f.blk]
  have bd2 := (bd.old o1).old (old_alloc w1 (.cells #[ptr f.blk] 81))
  have bs2 := (bs.old o1).old (old_alloc w1 (.cells #[ptr f.blk] 81))
  have bt2 := (bt.old o1).old (old_alloc w1 (.cells #[ptr f.blk] 81))
  have ho2 := (ho.tr o1).al (.cells #[ptr f.blk] 81)
  have hno : w.heap.size ∉ own k := H.out.newer (Nat.le_refl _)
  rw [← HFN.out] at bs2
  have hn2 := hk2.other bs2 (by decide) (by decide) (by decide) (by decide)
  have hn3 := hk2.other bf2 (by decide) (by decide) (by decide) (by decide)
  have hn4 := hk2.other bt2 (by decide) (by decide) (by decide) (by decide)
  have HC := Lib.hid (gate_fz k z hz 76 (enters_of Tryd.func76 (by kernel_rfl) rfl) #[ptr w.heap.size, ptr (w.heap.size + 1), ptr w1.heap.size, ptr (w.heap.size + 2)] (w1.alloc (.cells #[ptr f.blk] 81)) hk2 false (fun k0 k' => k' = renK k0 f t) (fun k' hx => by subst hx; exact ⟨rfl, rfl⟩) (fun k0 w0 ho0 hd hkp => (rename1_any k0 f t ht1 _ _ _ _ w0 hd (by rcases ho0 with rfl | rfl <;> exact HFM.out) (by rcases ho0 with rfl | rfl <;> exact hkp.bk bd2 hno) (hkp.bk bs2 hn2) (hkp.bk bf2 hn3) (hkp.bk bt2 hn4) (fun hx => by rcases ho0 with rfl | rfl; exact hno hx; exact hno (by rwa [own_fuseZ (z' := decZ z) hz rfl rfl rfl] at hx))).mono fun e w' ⟨e1, h2, h3⟩ => ⟨e1, _, rfl, h2, h3⟩))
  have x1 : (w1.alloc (.cells #[ptr f.blk] 81)).cell? ⟨w.heap.size, 0, none⟩ = some (ptr k.d) := bd2.at_ 0 rfl
  have hmf := makeF
  clear o1 hk bd bs bt ho d1 d2 bd2 bs2 bt2 bf2 hno
  have c3 : (w1.alloc (.cells #[ptr f.blk] 81)).cell? ⟨k.d, 3, none⟩ = some (gateV k.fuse) := hk2.disk.at_ 3 rfl
  rw [hz] at c3
  have c3' : (w1.alloc (.cells #[ptr f.blk] 81)).cell? ⟨k.d, 3, none⟩ = some (.func (.func 70) #[] #[ptr z.gn, ptr z.gk, ptr z.gd]) := c3
  clear c3 hk2
  go_wp2_with fail
  refine HC.out.mono ?_
  rintro e w4 ⟨x, k', rfl, hr, h4, hk4⟩
  go_wp2
  go_ret
  exact ⟨x, k', rfl, hr, h4, (Kept.of_old ho2).tr hk4⟩
end Go.Proofs.YtilimfbjkgeciaaDoor
