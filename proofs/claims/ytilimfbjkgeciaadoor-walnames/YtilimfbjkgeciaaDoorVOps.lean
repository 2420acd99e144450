/-
  The open gate; Create, Append, Sync, Rename, Delete of the code, of a disk without a fuse; their errors, of any disk. Conditions: the disk lies in memory; lengths as written.
-/
import Derived.Test.YtilimfbjkgeciaaDoorVDo2
namespace Go.Proofs.YtilimfbjkgeciaaDoor
set_option maxRecDepth 100000
open Go.RowKit Go.Maps

set_option maxHeartbeats 1000000 in
theorem pass_open (g : Nat) (he : ∀ args w, (callFunc g args).run Tryd.prog w = .ok (.enter g args) w) (caps : Array Value) (cut : Int) (w : World) (Q : World → Prop) (hdo : Calls Tryd.prog g caps w fun e w' => e = .returned (.tuple #[]) ∧ Q w') :
    Calls Tryd.prog 48 #[.int .i64 cut, .func (.func g) #[] caps] w fun e w' => e = .returned (.int .i64 0) ∧ Q w' := by
  have HD := Lib.hid hdo
  clear hdo
  go_enter Tryd.func48, Tryd.ntmps48
  go_wp2_with fail
  refine (show Calls Tryd.prog g _ _ _ from HD.out).mono ?_
  rintro e w1 ⟨rfl, hq⟩
  go_wp2
  go_ret
  exact ⟨rfl, hq⟩

/-- A struct, a text, a pointer that are boxed. -/
theorem Dk.al {w : World} {k : Dsk} (h : Dk w k) (o : Obj) : Dk (w.alloc o) k := h.old (old_alloc _ _)
theorem Dk.drew {w : World} {k : Dsk} (h : Dk w k) : Dk w.drew k := h.same fun _ _ _ => rfl

theorem makeF : ∀ (fn : Fn) (first cap : Array Value) (w : World), (Instr.makeFunc fn first cap).run Tryd.prog w = .ok (.func fn first cap) w := fun _ _ _ _ => rfl

/-- The error of Create. -/
def creE (k : Dsk) (s : List UInt8) : Int := if rdyE k [s] ≠ 0 then rdyE k [s] else if (fnd k.files s).isSome then 4 else if 200 ≤ k.files.length then 2 else 0

set_option maxHeartbeats 2000000 in
theorem create_rdy (k : Dsk) (s : List UInt8) (hs : s.length ≤ 100000) (w : World) (h : Dk w k) (hE : rdyE k [s] ≠ 0) :
    Calls Tryd.prog 55 #[ptr k.d, .string (B s)] w fun e w' => e = .returned (.int .i64 (rdyE k [s])) ∧ Old w w' := by
  have HR := Lib.hid (ready1' k s hs)
  have H := Lib.hid h
  clear h
  generalize rdyE k [s] = E at *
  go_enter Tryd.func55, Tryd.ntmps55
  go_wp2_with fail
  refine (HR.out _ _ (((H.out.al _).al _).al _) (new_bk' _ _ _ _ (by simp))).mono ?_
  rintro e w1 ⟨rfl, rfl⟩
  go_wp2
  go_ret
  exact ⟨rfl, ((old_alloc _ _).al _).al _⟩

set_option maxHeartbeats 2000000 in
theorem create_twice (k : Dsk) (s : List UInt8) (hs : s.length ≤ 100000) (w : World) (h : Dk w k) (hu : k.up = true) (hb : bad s = false) (f : Fl) (hf : fnd k.files s = some f) :
    Calls Tryd.prog 55 #[ptr k.d, .string (B s)] w fun e w' => e = .returned (.int .i64 4) ∧ Old w w' := by
  have hr0 : rdyE k [s] = 0 := by unfold rdyE; simp [hu, hb]
  have HR := Lib.hid (ready1' k s hs)
  rw [hr0] at HR
  have H := Lib.hid h
  obtain ⟨D, hown0, hR0⟩ := h.map
  have hmany := h.ok.many
  clear h hr0
  go_enter Tryd.func55, Tryd.ntmps55
  go_wp2_with fail
  refine (HR.out _ _ (((H.out.al _).al _).al _) (new_bk' _ _ _ _ (by simp))).mono ?_
  rintro e w1 ⟨rfl, rfl⟩
  have hk := ((H.out.al (.cells #[ptr k.d] 25)).al (.cells #[.string (B s)] 9)).al (.cells #[.string (B s)] 9)
  have bd : Bk (((w.alloc (.cells #[ptr k.d] 25)).alloc (.cells #[.string (B s)] 9)).alloc (.cells #[.string (B s)] 9)) w.heap.size 25 #[ptr k.d] := ((new_bk w _ _).old (old_alloc _ _)).old (old_alloc _ _)
  have bn : Bk (((w.alloc (.cells #[ptr k.d] 25)).alloc (.cells #[.string (B s)] 9)).alloc (.cells #[.string (B s)] 9)) (w.heap.size + 1) 9 #[.string (B s)] := (new_bk' (w.alloc (.cells #[ptr k.d] 25)) _ _ _ (by simp)).old (old_alloc _ _)
  have ho := ((old_alloc w (.cells #[ptr k.d] 25)).al (.cells #[.string (B s)] 9)).al (.cells #[.string (B s)] 9)
  generalize ((w.alloc (.cells #[ptr k.d] 25)).alloc (.cells #[.string (B s)] 9)).alloc (.cells #[.string (B s)] 9) = W at hk bd bn ho ⊢
  have c1 : W.cell? ⟨k.d, 1, none⟩ = some (.map (some k.m)) := hk.disk.at_ 1 rfl
  have d1 := bd.at_ 0 rfl
  have d2 := bn.at_ 0 rfl
  have hlook := hk.drew.look s (by omega)
  unfold fptr at hlook
  rw [hf] at hlook
  go_wp2
  go_still (by kernel_rfl)
  change Exit.then _ _ _ _ W.drew
  go_wp2
  go_ret
  exact ⟨rfl, ho.dr⟩

set_option maxHeartbeats 2000000 in
theorem create_full (k : Dsk) (s : List UInt8) (hs : s.length ≤ 100000) (w : World) (h : Dk w k) (hu : k.up = true) (hb : bad s = false) (hf : fnd k.files s = none) (hl : 200 ≤ k.files.length) :
    Calls Tryd.prog 55 #[ptr k.d, .string (B s)] w fun e w' => e = .returned (.int .i64 2) ∧ Old w w' := by
  have hr0 : rdyE k [s] = 0 := by unfold rdyE; simp [hu, hb]
  have HR := Lib.hid (ready1' k s hs)
  rw [hr0] at HR
  have H := Lib.hid h
  obtain ⟨D, hown0, hR0⟩ := h.map
  have hmany := h.ok.many
  clear h hr0
  go_enter Tryd.func55, Tryd.ntmps55
  go_wp2_with fail
  refine (HR.out _ _ (((H.out.al _).al _).al _) (new_bk' _ _ _ _ (by simp))).mono ?_
  rintro e w1 ⟨rfl, rfl⟩
  have hk := ((H.out.al (.cells #[ptr k.d] 25)).al (.cells #[.string (B s)] 9)).al (.cells #[.string (B s)] 9)
  have bd : Bk (((w.alloc (.cells #[ptr k.d] 25)).alloc (.cells #[.string (B s)] 9)).alloc (.cells #[.string (B s)] 9)) w.heap.size 25 #[ptr k.d] := ((new_bk w _ _).old (old_alloc _ _)).old (old_alloc _ _)
  have bn : Bk (((w.alloc (.cells #[ptr k.d] 25)).alloc (.cells #[.string (B s)] 9)).alloc (.cells #[.string (B s)] 9)) (w.heap.size + 1) 9 #[.string (B s)] := (new_bk' (w.alloc (.cells #[ptr k.d] 25)) _ _ _ (by simp)).old (old_alloc _ _)
  have ho := ((old_alloc w (.cells #[ptr k.d] 25)).al (.cells #[.string (B s)] 9)).al (.cells #[.string (B s)] 9)
  generalize ((w.alloc (.cells #[ptr k.d] 25)).alloc (.cells #[.string (B s)] 9)).alloc (.cells #[.string (B s)] 9) = W at hk bd bn ho ⊢
  have c1 : W.cell? ⟨k.d, 1, none⟩ = some (.map (some k.m)) := hk.disk.at_ 1 rfl
  have d1 := bd.at_ 0 rfl
  have d2 := bn.at_ 0 rfl
  have hlook := hk.drew.look s (by omega)
  unfold fptr at hlook
  rw [hf] at hlook
  go_wp2
  go_still (by kernel_rfl)
  change Exit.then _ _ _ _ W.drew
  have hk2 := hk.drew
  have bd2 : Bk W.drew w.heap.size 25 #[ptr k.d] := bd
  have bn2 : Bk W.drew (w.heap.size + 1) 9 #[.string (B s)] := bn
  have ho2 := ho.dr
  clear hlook d1 d2 c1 hk bd bn ho
  generalize W.drew = W2 at hk2 bd2 bn2 ho2 ⊢
  have c1 : W2.cell? ⟨k.d, 1, none⟩ = some (.map (some k.m)) := hk2.disk.at_ 1 rfl
  have d1 := bd2.at_ 0 rfl
  have hlen : ∀ ty, (Builtin.len_ #[56] ty #[.map (some k.m)]).run Tryd.prog W2 = .ok (.int .i64 (k.files.length : Int)) W2 := by
    intro ty
    obtain ⟨D, h1, h2⟩ := hk2.map
    rw [← h2.size]
    exact h1.len Tryd.underlying56 ty
  have hge : decide ((200 : Int) ≤ (k.files.length : Int)) = true := by simp; omega
  go_wp2
  go_ret
  exact ⟨rfl, ho2⟩

set_option maxHeartbeats 2000000 in
theorem create_ok (k : Dsk) (s : List UInt8) (w : World) (h : Dk w k) (hz : k.fuse = none) (hu : k.up = true) (hb : bad s = false) (hf : fnd k.files s = none) (hl : k.files.length < 200) :
    Calls Tryd.prog 55 #[ptr k.d, .string (B s)] w fun e w' => e = .returned (.int .i64 0) ∧ ∃ b, Dk w' (withF k (put ⟨s, b, [], 0⟩ k.files)) ∧ Kept k (withF k (put ⟨s, b, [], 0⟩ k.files)) w w' := by
  have hs1 := bad_no hb
  have hs : s.length ≤ 100000 := by omega
  have hr0 : rdyE k [s] = 0 := by unfold rdyE; simp [hu, hb]
  have HR := Lib.hid (ready1' k s hs)
  rw [hr0] at HR
  have H := Lib.hid h
  obtain ⟨D, hown0, hR0⟩ := h.map
  have hmany := h.ok.many
  clear h hr0
  go_enter Tryd.func55, Tryd.ntmps55
  go_wp2_with fail
  refine (HR.out _ _ (((H.out.al _).al _).al _) (new_bk' _ _ _ _ (by simp))).mono ?_
  rintro e w1 ⟨rfl, rfl⟩
  have hk := ((H.out.al (.cells #[ptr k.d] 25)).al (.cells #[.string (B s)] 9)).al (.cells #[.string (B s)] 9)
  have bd : Bk (((w.alloc (.cells #[ptr k.d] 25)).alloc (.cells #[.string (B s)] 9)).alloc (.cells #[.string (B s)] 9)) w.heap.size 25 #[ptr k.d] := ((new_bk w _ _).old (old_alloc _ _)).old (old_alloc _ _)
  have bn : Bk (((w.alloc (.cells #[ptr k.d] 25)).alloc (.cells #[.string (B s)] 9)).alloc (.cells #[.string (B s)] 9)) (w.heap.size + 1) 9 #[.string (B s)] := (new_bk' (w.alloc (.cells #[ptr k.d] 25)) _ _ _ (by simp)).old (old_alloc _ _)
  have ho := ((old_alloc w (.cells #[ptr k.d] 25)).al (.cells #[.string (B s)] 9)).al (.cells #[.string (B s)] 9)
  generalize ((w.alloc (.cells #[ptr k.d] 25)).alloc (.cells #[.string (B s)] 9)).alloc (.cells #[.string (B s)] 9) = W at hk bd bn ho ⊢
  have c1 : W.cell? ⟨k.d, 1, none⟩ = some (.map (some k.m)) := hk.disk.at_ 1 rfl
  have d1 := bd.at_ 0 rfl
  have d2 := bn.at_ 0 rfl
  have hlook := hk.drew.look s (by omega)
  unfold fptr at hlook
  rw [hf] at hlook
  go_wp2
  go_still (by kernel_rfl)
  change Exit.then _ _ _ _ W.drew
  have hk2 := hk.drew
  have bd2 : Bk W.drew w.heap.size 25 #[ptr k.d] := bd
  have bn2 : Bk W.drew (w.heap.size + 1) 9 #[.string (B s)] := bn
  have ho2 := ho.dr
  clear hlook d1 d2 c1 hk bd bn ho
  generalize W.drew = W2 at hk2 bd2 bn2 ho2 ⊢
  have c1 : W2.cell? ⟨k.d, 1, none⟩ = some (.map (some k.m)) := hk2.disk.at_ 1 rfl
  have d1 := bd2.at_ 0 rfl
  have hlen : ∀ ty, (Builtin.len_ #[56] ty #[.map (some k.m)]).run Tryd.prog W2 = .ok (.int .i64 (k.files.length : Int)) W2 := by
    intro ty
    obtain ⟨D, h1, h2⟩ := hk2.map
    rw [← h2.size]
    exact h1.len Tryd.underlying56 ty
  have hge : decide ((200 : Int) ≤ (k.files.length : Int)) = false := by simp; omega
  have c3 : W2.cell? ⟨k.d, 3, none⟩ = some (gateV k.fuse) := hk2.disk.at_ 3 rfl
  rw [hz] at c3
  have c3' : W2.cell? ⟨k.d, 3, none⟩ = some (.func (.func 48) #[] #[]) := c3
  have HC := Lib.hid (create1_any k s hs1 _ _ W2 hk2 bd2 bn2 hl)
  have hmf := makeF
  clear c3 bd2 bn2
  go_wp2_with fail
  refine (pass_open 75 (enters_of Tryd.func75 (by kernel_rfl) rfl) _ _ _ _ HC.out).mono ?_
  rintro e w3 ⟨rfl, b, h3, hk3⟩
  go_wp2
  go_ret
  exact ⟨rfl, b, h3, (Kept.of_old ho2).tr hk3⟩

end Go.Proofs.YtilimfbjkgeciaaDoor
