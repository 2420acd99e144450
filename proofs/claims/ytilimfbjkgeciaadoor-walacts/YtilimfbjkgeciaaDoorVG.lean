/-
  Texts in one: VOps VOps2 VOps3. Conditions: as each theorem writes them.
-/
import Derived.Test.YtilimfbjkgeciaaDoorVDG
namespace Go.Proofs.YtilimfbjkgeciaaDoor
set_option maxRecDepth 100000
open Go.RowKit Go.Maps

set_option maxHeartbeats 1000000 in
theorem pass_open (g : Nat) (he : ∀ args w, (callFunc g args).run Tryd.prog w = .ok (.enter g args) w) (caps : Array Value) (cut : Int) (w : World) (Q : World → Prop) (hdo : Calls Tryd.prog g caps w fun e w' => e = .returned (.tuple #[]) ∧ Q w') :
    Calls Tryd.prog 48 #[.int .i64 cut, .func (.func g) #[] caps] w fun e w' => e = .returned (.int .i64 0) ∧ Q w' := by
  have HD := Lib.hid hdo
  clear hdo
  go_enter Tryd.func48, Tryd.ntmps48
  go_wp2_with fail
  refine (show Calls Tryd.prog g _ _ _ from HD.out).mono ?_
  rintro e w1 ⟨rfl, hq⟩
  go_wp2
  go_ret
  exact ⟨rfl, hq⟩

/-- A struct, a text, a pointer that are boxed. -/
theorem Dk.al {w : World} {k : Dsk} (h : Dk w k) (o : Obj) : Dk (w.alloc o) k := h.old (old_alloc _ _)
theorem Dk.drew {w : World} {k : Dsk} (h : Dk w k) : Dk w.drew k := h.same fun _ _ _ => rfl

theorem makeF : ∀ (fn : Fn) (first cap : Array Value) (w : World), (Instr.makeFunc fn first cap).run Tryd.prog w = .ok (.func fn first cap) w := fun _ _ _ _ => rfl

/-- The error of Create. -/
def creE (k : Dsk) (s : List UInt8) : Int := if rdyE k [s] ≠ 0 then rdyE k [s] else if (fnd k.files s).isSome then 4 else if 200 ≤ k.files.length then 2 else 0

set_option maxHeartbeats 2000000 in
theorem create_rdy (k : Dsk) (s : List UInt8) (hs : s.length ≤ 100000) (w : World) (h : Dk w k) (hE : rdyE k [s] ≠ 0) :
    Calls Tryd.prog 55 #[ptr k.d, .string (B s)] w fun e w' => e = .returned (.int .i64 (rdyE k [s])) ∧ Old w w' := by
  have HR := Lib.hid (ready1' k s hs)
  have H := Lib.hid h
  clear h
  generalize rdyE k [s] = E at *
  go_enter Tryd.func55, Tryd.ntmps55
  go_wp2_with fail
  refine (HR.out _ _ (((H.out.al _).al _).al _) (new_bk' _ _ _ _ (by simp))).mono ?_
  rintro e w1 ⟨rfl, rfl⟩
  go_wp2
  go_ret
  exact ⟨rfl, ((old_alloc _ _).al _).al _⟩

set_option maxHeartbeats 2000000 in
theorem create_twice (k : Dsk) (s : List UInt8) (hs : s.length ≤ 100000) (w : World) (h : Dk w k) (hu : k.up = true) (hb : bad s = false) (f : Fl) (hf : fnd k.files s = some f) :
    Calls Tryd.prog 55 #[ptr k.d, .string (B s)] w fun e w' => e = .returned (.int .i64 4) ∧ Old w w' := by
  have hr0 : rdyE k [s] = 0 := by unfold rdyE; simp [hu, hb]
  have HR := Lib.hid (ready1' k s hs)
  rw [hr0] at HR
  have H := Lib.hid h
  obtain ⟨D, hown0, hR0⟩ := h.map
  have hmany := h.ok.many
  clear h hr0
  go_enter Tryd.func55, Tryd.ntmps55
  go_wp2_with fail
  refine (HR.out _ _ (((H.out.al _).al _).al _) (new_bk' _ _ _ _ (by simp))).mono ?_
  rintro e w1 ⟨rfl, rfl⟩
  have hk := ((H.out.al (.cells #[ptr k.d] 25)).al (.cells #[.string (B s)] 9)).al (.cells #[.string (B s)] 9)
  have bd : Bk (((w.alloc (.cells #[ptr k.d] 25)).alloc (.cells #[.string (B s)] 9)).alloc (.cells #[.string (B s)] 9)) w.heap.size 25 #[ptr k.d] := ((new_bk w _ _).old (old_alloc _ _)).old (old_alloc _ _)
  have bn : Bk (((w.alloc (.cells #[ptr k.d] 25)).alloc (.cells #[.string (B s)] 9)).alloc (.cells #[.string (B s)] 9)) (w.heap.size + 1) 9 #[.string (B s)] := (new_bk' (w.alloc (.cells #[ptr k.d] 25)) _ _ _ (by simp)).old (old_alloc _ _)
  have ho := ((old_alloc w (.cells #[ptr k.d] 25)).al (.cells #[.string (B s)] 9)).al (.cells #[.string (B s)] 9)
  generalize ((w.alloc (.cells #[ptr k.d] 25)).alloc (.cells #[.string (B s)] 9)).alloc (.cells #[.string (B s)] 9) = W at hk bd bn ho ⊢
  have c1 : W.cell? ⟨k.d, 1, none⟩ = some (.map (some k.m)) := hk.disk.at_ 1 rfl
  have d1 := bd.at_ 0 rfl
  have d2 := bn.at_ 0 rfl
  have hlook := hk.drew.look s (by omega)
  unfold fptr at hlook
  rw [hf] at hlook
  go_wp2
  go_still (by kernel_rfl)
  change Exit.then _ _ _ _ W.drew
  go_wp2
  go_ret
  exact ⟨rfl, ho.dr⟩

set_option maxHeartbeats 2000000 in
theorem create_full (k : Dsk) (s : List UInt8) (hs : s.length ≤ 100000) (w : World) (h : Dk w k) (hu : k.up = true) (hb : bad s = false) (hf : fnd k.files s = none) (hl : 200 ≤ k.files.length) :
    Calls Tryd.prog 55 #[ptr k.d, .string (B s)] w fun e w' => e = .returned (.int .i64 2) ∧ Old w w' := by
  have hr0 : rdyE k [s] = 0 := by unfold rdyE; simp [hu, hb]
  have HR := Lib.hid (ready1' k s hs)
  rw [hr0] at HR
  have H := Lib.hid h
  obtain ⟨D, hown0, hR0⟩ := h.map
  have hmany := h.ok.many
  clear h hr0
  go_enter Tryd.func55, Tryd.ntmps55
  go_wp2_with fail
  refine (HR.out _ _ (((H.out.al _).al _).al _) (new_bk' _ _ _ _ (by simp))).mono ?_
  rintro e w1 ⟨rfl, rfl⟩
  have hk := ((H.out.al (.cells #[ptr k.d] 25)).al (.cells #[.string (B s)] 9)).al (.cells #[.string (B s)] 9)
  have bd : Bk (((w.alloc (.cells #[ptr k.d] 25)).alloc (.cells #[.string (B s)] 9)).alloc (.cells #[.string (B s)] 9)) w.heap.size 25 #[ptr k.d] := ((new_bk w _ _).old (old_alloc _ _)).old (old_alloc _ _)
  have bn : Bk (((w.alloc (.cells #[ptr k.d] 25)).alloc (.cells #[.string (B s)] 9)).alloc (.cells #[.string (B s)] 9)) (w.heap.size + 1) 9 #[.string (B s)] := (new_bk' (w.alloc (.cells #[ptr k.d] 25)) _ _ _ (by simp)).old (old_alloc _ _)
  have ho := ((old_alloc w (.cells #[ptr k.d] 25)).al (.cells #[.string (B s)] 9)).al (.cells #[.string (B s)] 9)
  generalize ((w.alloc (.cells #[ptr k.d] 25)).alloc (.cells #[.string (B s)] 9)).alloc (.cells #[.string (B s)] 9) = W at hk bd bn ho ⊢
  have c1 : W.cell? ⟨k.d, 1, none⟩ = some (.map (some k.m)) := hk.disk.at_ 1 rfl
  have d1 := bd.at_ 0 rfl
  have d2 := bn.at_ 0 rfl
  have hlook := hk.drew.look s (by omega)
  unfold fptr at hlook
  rw [hf] at hlook
  go_wp2
  go_still (by kernel_rfl)
  change Exit.then _ _ _ _ W.drew
  have hk2 := hk.drew
  have bd2 : Bk W.drew w.heap.size 25 #[ptr k.d] := bd
  have bn2 : Bk W.drew (w.heap.size + 1) 9 #[.string (B s)] := bn
  have ho2 := ho.dr
  clear hlook d1 d2 c1 hk bd bn ho
  generalize W.drew = W2 at hk2 bd2 bn2 ho2 ⊢
  have c1 : W2.cell? ⟨k.d, 1, none⟩ = some (.map (some k.m)) := hk2.disk.at_ 1 rfl
  have d1 := bd2.at_ 0 rfl
  have hlen : ∀ ty, (Builtin.len_ #[56] ty #[.map (some k.m)]).run Tryd.prog W2 = .ok (.int .i64 (k.files.length : Int)) W2 := by
    intro ty
    obtain ⟨D, h1, h2⟩ := hk2.map
    rw [← h2.size]
    exact h1.len Tryd.underlying56 ty
  have hge : decide ((200 : Int) ≤ (k.files.length : Int)) = true := by simp; omega
  go_wp2
  go_ret
  exact ⟨rfl, ho2⟩

set_option maxHeartbeats 2000000 in
theorem create_ok (k : Dsk) (s : List UInt8) (w : World) (h : Dk w k) (hz : k.fuse = none) (hu : k.up = true) (hb : bad s = false) (hf : fnd k.files s = none) (hl : k.files.length < 200) :
    Calls Tryd.prog 55 #[ptr k.d, .string (B s)] w fun e w' => e = .returned (.int .i64 0) ∧ ∃ b, Dk w' (withF k (put ⟨s, b, [], 0⟩ k.files)) ∧ Kept k (withF k (put ⟨s, b, [], 0⟩ k.files)) w w' := by
  have hs1 := bad_no hb
  have hs : s.length ≤ 100000 := by omega
  have hr0 : rdyE k [s] = 0 := by unfold rdyE; simp [hu, hb]
  have HR := Lib.hid (ready1' k s hs)
  rw [hr0] at HR
  have H := Lib.hid h
  obtain ⟨D, hown0, hR0⟩ := h.map
  have hmany := h.ok.many
  clear h hr0
  go_enter Tryd.func55, Tryd.ntmps55
  go_wp2_with fail
  refine (HR.out _ _ (((H.out.al _).al _).al _) (new_bk' _ _ _ _ (by simp))).mono ?_
  rintro e w1 ⟨rfl, rfl⟩
  have hk := ((H.out.al (.cells #[ptr k.d] 25)).al (.cells #[.string (B s)] 9)).al (.cells #[.string (B s)] 9)
  have bd : Bk (((w.alloc (.cells #[ptr k.d] 25)).alloc (.cells #[.string (B s)] 9)).alloc (.cells #[.string (B s)] 9)) w.heap.size 25 #[ptr k.d] := ((new_bk w _ _).old (old_alloc _ _)).old (old_alloc _ _)
  have bn : Bk (((w.alloc (.cells #[ptr k.d] 25)).alloc (.cells #[.string (B s)] 9)).alloc (.cells #[.string (B s)] 9)) (w.heap.size + 1) 9 #[.string (B s)] := (new_bk' (w.alloc (.cells #[ptr k.d] 25)) _ _ _ (by simp)).old (old_alloc _ _)
  have ho := ((old_alloc w (.cells #[ptr k.d] 25)).al (.cells #[.string (B s)] 9)).al (.cells #[.string (B s)] 9)
  generalize ((w.alloc (.cells #[ptr k.d] 25)).alloc (.cells #[.string (B s)] 9)).alloc (.cells #[.string (B s)] 9) = W at hk bd bn ho ⊢
  have c1 : W.cell? ⟨k.d, 1, none⟩ = some (.map (some k.m)) := hk.disk.at_ 1 rfl
  have d1 := bd.at_ 0 rfl
  have d2 := bn.at_ 0 rfl
  have hlook := hk.drew.look s (by omega)
  unfold fptr at hlook
  rw [hf] at hlook
  go_wp2
  go_still (by kernel_rfl)
  change Exit.then _ _ _ _ W.drew
  have hk2 := hk.drew
  have bd2 : Bk W.drew w.heap.size 25 #[ptr k.d] := bd
  have bn2 : Bk W.drew (w.heap.size + 1) 9 #[.string (B s)] := bn
  have ho2 := ho.dr
  clear hlook d1 d2 c1 hk bd bn ho
  generalize W.drew = W2 at hk2 bd2 bn2 ho2 ⊢
  have c1 : W2.cell? ⟨k.d, 1, none⟩ = some (.map (some k.m)) := hk2.disk.at_ 1 rfl
  have d1 := bd2.at_ 0 rfl
  have hlen : ∀ ty, (Builtin.len_ #[56] ty #[.map (some k.m)]).run Tryd.prog W2 = .ok (.int .i64 (k.files.length : Int)) W2 := by
    intro ty
    obtain ⟨D, h1, h2⟩ := hk2.map
    rw [← h2.size]
    exact h1.len Tryd.underlying56 ty
  have hge : decide ((200 : Int) ≤ (k.files.length : Int)) = false := by simp; omega
  have c3 : W2.cell? ⟨k.d, 3, none⟩ = some (gateV k.fuse) := hk2.disk.at_ 3 rfl
  rw [hz] at c3
  have c3' : W2.cell? ⟨k.d, 3, none⟩ = some (.func (.func 48) #[] #[]) := c3
  have HC := Lib.hid (create1_any k s hs1 _ _ W2 hk2 bd2 bn2 hl)
  have hmf := makeF
  clear c3 bd2 bn2
  go_wp2_with fail
  refine (pass_open 75 (enters_of Tryd.func75 (by kernel_rfl) rfl) _ _ _ _ HC.out).mono ?_
  rintro e w3 ⟨rfl, b, h3, hk3⟩
  go_wp2
  go_ret
  exact ⟨rfl, b, h3, (Kept.of_old ho2).tr hk3⟩

end Go.Proofs.YtilimfbjkgeciaaDoor

namespace Go.Proofs.YtilimfbjkgeciaaDoor
set_option maxRecDepth 100000
open Go.RowKit Go.Maps

set_option maxHeartbeats 2000000 in
theorem append_no (k : Dsk) (s t : List UInt8) (hs : s.length ≤ 100000) (w : World) (h : Dk w k) (hE : fndE k s ≠ 0) :
    Calls Tryd.prog 40 #[ptr k.d, .string (B s), .string (B t)] w fun e w' => e = .returned (.int .i64 (fndE k s)) ∧ Old w w' := by
  have HF := Lib.hid (find_any k s hs)
  rw [fndP_no hE] at HF
  have H := Lib.hid h
  clear h
  generalize fndE k s = E at *
  go_enter Tryd.func40, Tryd.ntmps40
  go_wp2_with fail
  refine (HF.out _ (H.out.al _)).mono ?_
  rintro e w1 ⟨rfl, o1⟩
  have o2 := (old_alloc w (.cells #[.string (B t)] 9)).tr o1
  go_wp2
  go_ret
  exact ⟨rfl, o2.al _⟩
theorem app_keep {W W1 W2 : World} {g1 g2 : Nat} {u1 u2 : Value} (h1 : Old W W1 ∧ W1.cell? ⟨g1, 0, none⟩ = some u1 ∧ W1.cell? ⟨g2, 0, none⟩ = some u2) (h2 : Old W1 W2) :
    Old W W2 ∧ W2.cell? ⟨g1, 0, none⟩ = some u1 ∧ W2.cell? ⟨g2, 0, none⟩ = some u2 := ⟨h1.1.tr h2, cell_old h1.2.1 h2, cell_old h1.2.2 h2⟩

set_option maxHeartbeats 2000000 in
theorem append_full (k : Dsk) (s t : List UInt8) (ht : t.length ≤ 1000000000000) (w : World) (h : Dk w k) (hu : k.up = true) (hb : bad s = false) (f : Fl) (hf : fnd k.files s = some f) (hl : k.cap < total k.files + t.length) :
    Calls Tryd.prog 40 #[ptr k.d, .string (B s), .string (B t)] w fun e w' => e = .returned (.int .i64 2) ∧ Old w w' := by
  obtain ⟨e1, e2⟩ := fndE_of hu hb hf
  have hs1 := bad_no hb
  have HF := Lib.hid (find_any k s (by omega))
  rw [e1, e2] at HF
  have H := Lib.hid h
  have hcap := h.ok.capb
  have hroom := h.ok.room
  clear h e1 e2
  go_enter Tryd.func40, Tryd.ntmps40
  go_wp2_with fail
  refine (HF.out _ (H.out.al _)).mono ?_
  rintro e w1 ⟨rfl, o1⟩
  have hk := (H.out.al (.cells #[.string (B t)] 9)).old o1
  have bt : Bk w1 w.heap.size 9 #[.string (B t)] := (new_bk w _ _).old o1
  have ho := (old_alloc w (.cells #[.string (B t)] 9)).tr o1
  clear o1
  have hk2 := hk.al (.cells #[ptr f.blk] 81)
  have bt2 := bt.old (old_alloc w1 (.cells #[ptr f.blk] 81))
  have bf2 := new_bk w1 81 #[ptr f.blk]
  have ho2 := ho.al (.cells #[ptr f.blk] 81)
  clear hk bt ho
  go_wp2
  generalize w1.alloc (.cells #[ptr f.blk] 81) = W at hk2 bt2 bf2 ho2 ⊢
  have HZ := Lib.hid fun (W' : World) (o : Old W W') => size_any k W' (hk2.old o)
  have c0 : W.cell? ⟨k.d, 0, none⟩ = some (.int .i64 (k.cap : Int)) := hk2.disk.at_ 0 rfl
  have d2 : W.cell? ⟨w.heap.size, 0, none⟩ = some (.string (B t)) := bt2.at_ 0 rfl
  have hS : Old W W ∧ W.cell? ⟨k.d, 0, none⟩ = some (.int .i64 (k.cap : Int)) ∧ W.cell? ⟨w.heap.size, 0, none⟩ = some (.string (B t)) := ⟨Old.re _, c0, d2⟩
  have wr : IntKind.i64.wrap ((total k.files : Int) + (t.length : Int)) = (total k.files : Int) + (t.length : Int) := by rw [IntKind.wrap_i64]; omega
  go_region_held3 (fun W' => Old W W' ∧ W'.cell? ⟨k.d, 0, none⟩ = some (.int .i64 (k.cap : Int)) ∧ W'.cell? ⟨w.heap.size, 0, none⟩ = some (.string (B t))) (first | exact ⟨hS.1.dr, hS.2⟩ | exact app_keep (by assumption) (by assumption))
    (first
      | (go_at_call 25; with_reducible refine (HZ.out _ (And.left (by assumption))).mono ?_; rintro r w3 ⟨rfl, h3⟩))
  have f3 : Old W w3 := And.left (by assumption)
  have hgt : decide ((k.cap : Int) < (total k.files : Int) + (t.length : Int)) = true := by simp; omega
  clear wr hS c0 d2
  go_wp2
  go_ret
  exact ⟨rfl, ho2.tr f3⟩

set_option maxHeartbeats 2000000 in
theorem append_ok (k : Dsk) (s t : List UInt8) (w : World) (h : Dk w k) (hz : k.fuse = none) (hu : k.up = true) (hb : bad s = false) (f : Fl) (hf : fnd k.files s = some f) (hl : total k.files + t.length ≤ k.cap) :
    Calls Tryd.prog 40 #[ptr k.d, .string (B s), .string (B t)] w fun e w' => e = .returned (.int .i64 0) ∧ Dk w' (setK k f.blk (f.s ++ t) f.n) ∧ Kept k (setK k f.blk (f.s ++ t) f.n) w w' := by
  obtain ⟨e1, e2⟩ := fndE_of hu hb hf
  have hs1 := bad_no hb
  have HF := Lib.hid (find_any k s (by omega))
  rw [e1, e2] at HF
  have H := Lib.hid h
  have hcap := h.ok.capb
  have hroom := h.ok.room
  clear h e1 e2
  go_enter Tryd.func40, Tryd.ntmps40
  go_wp2_with fail
  refine (HF.out _ (H.out.al _)).mono ?_
  rintro e w1 ⟨rfl, o1⟩
  have hk := (H.out.al (.cells #[.string (B t)] 9)).old o1
  have bt : Bk w1 w.heap.size 9 #[.string (B t)] := (new_bk w _ _).old o1
  have ho := (old_alloc w (.cells #[.string (B t)] 9)).tr o1
  clear o1
  have hk2 := hk.al (.cells #[ptr f.blk] 81)
  have bt2 := bt.old (old_alloc w1 (.cells #[ptr f.blk] 81))
  have bf2 := new_bk w1 81 #[ptr f.blk]
  have ho2 := ho.al (.cells #[ptr f.blk] 81)
  clear hk bt ho
  go_wp2
  generalize w1.alloc (.cells #[ptr f.blk] 81) = W at hk2 bt2 bf2 ho2 ⊢
  have HZ := Lib.hid fun (W' : World) (o : Old W W') => size_any k W' (hk2.old o)
  have c0 : W.cell? ⟨k.d, 0, none⟩ = some (.int .i64 (k.cap : Int)) := hk2.disk.at_ 0 rfl
  have d2 : W.cell? ⟨w.heap.size, 0, none⟩ = some (.string (B t)) := bt2.at_ 0 rfl
  have hS : Old W W ∧ W.cell? ⟨k.d, 0, none⟩ = some (.int .i64 (k.cap : Int)) ∧ W.cell? ⟨w.heap.size, 0, none⟩ = some (.string (B t)) := ⟨Old.re _, c0, d2⟩
  have wr : IntKind.i64.wrap ((total k.files : Int) + (t.length : Int)) = (total k.files : Int) + (t.length : Int) := by rw [IntKind.wrap_i64]; omega
  go_region_held3 (fun W' => Old W W' ∧ W'.cell? ⟨k.d, 0, none⟩ = some (.int .i64 (k.cap : Int)) ∧ W'.cell? ⟨w.heap.size, 0, none⟩ = some (.string (B t))) (first | exact ⟨hS.1.dr, hS.2⟩ | exact app_keep (by assumption) (by assumption))
    (first
      | (go_at_call 25; with_reducible refine (HZ.out _ (And.left (by assumption))).mono ?_; rintro r w3 ⟨rfl, h3⟩))
  have f3 : Old W w3 := And.left (by assumption)
  have hgt : decide ((k.cap : Int) < (total k.files : Int) + (t.length : Int)) = false := by simp; omega
  clear wr hS c0 d2
  have hk3 := hk2.old f3
  have ho3 := ho2.tr f3
  have HC := Lib.hid (append1_any k f t _ _ w3 hk3 (fnd_mem hf) (bf2.old f3) (bt2.old f3) hl)
  have c3 : w3.cell? ⟨k.d, 3, none⟩ = some (gateV k.fuse) := hk3.disk.at_ 3 rfl
  rw [hz] at c3
  have c3' : w3.cell? ⟨k.d, 3, none⟩ = some (.func (.func 48) #[] #[]) := c3
  have hmf := makeF
  clear c3
  go_wp2_with fail
  refine (pass_open 68 (enters_of Tryd.func68 (by kernel_rfl) rfl) _ _ _ _ HC.out).mono ?_
  rintro e w4 ⟨rfl, h4, hk4⟩
  go_wp2
  go_ret
  exact ⟨rfl, h4, (Kept.of_old ho3).tr hk4⟩

set_option maxHeartbeats 2000000 in
theorem sync_no (k : Dsk) (s : List UInt8) (hs : s.length ≤ 100000) (w : World) (h : Dk w k) (hE : fndE k s ≠ 0) :
    Calls Tryd.prog 30 #[ptr k.d, .string (B s)] w fun e w' => e = .returned (.int .i64 (fndE k s)) ∧ Old w w' := by
  have HF := Lib.hid (find_any k s hs)
  rw [fndP_no hE] at HF
  have H := Lib.hid h
  clear h
  generalize fndE k s = E at *
  go_enter Tryd.func30, Tryd.ntmps30
  go_wp2_with fail
  refine (HF.out _ H.out).mono ?_
  rintro e w1 ⟨rfl, o1⟩
  go_wp2
  go_ret
  exact ⟨rfl, o1.al _⟩

set_option maxHeartbeats 2000000 in
theorem sync_ok (k : Dsk) (s : List UInt8) (w : World) (h : Dk w k) (hz : k.fuse = none) (hu : k.up = true) (hb : bad s = false) (f : Fl) (hf : fnd k.files s = some f) :
    Calls Tryd.prog 30 #[ptr k.d, .string (B s)] w fun e w' => e = .returned (.int .i64 0) ∧ Dk w' (setK k f.blk f.s f.s.length) ∧ Kept k (setK k f.blk f.s f.s.length) w w' := by
  obtain ⟨e1, e2⟩ := fndE_of hu hb hf
  have hs1 := bad_no hb
  have HF := Lib.hid (find_any k s (by omega))
  rw [e1, e2] at HF
  have H := Lib.hid h
  clear h e1 e2
  go_enter Tryd.func30, Tryd.ntmps30
  go_wp2_with fail
  refine (HF.out _ H.out).mono ?_
  rintro e w1 ⟨rfl, o1⟩
  have hk2 := (H.out.old o1).al (.cells #[ptr f.blk] 81)
  have bf2 := new_bk w1 81 #[ptr f.blk]
  have ho2 := o1.al (.cells #[ptr f.blk] 81)
  clear o1
  have HC := Lib.hid (sync1_any k f _ _ hk2 (fnd_mem hf) bf2)
  have c3 : (w1.alloc (.cells #[ptr f.blk] 81)).cell? ⟨k.d, 3, none⟩ = some (gateV k.fuse) := hk2.disk.at_ 3 rfl
  rw [hz] at c3
  have c3' : (w1.alloc (.cells #[ptr f.blk] 81)).cell? ⟨k.d, 3, none⟩ = some (.func (.func 48) #[] #[]) := c3
  have hmf := makeF
  clear c3
  clear bf2 hk2
  go_wp2_with fail
  refine (pass_open 51 (enters_of Tryd.func51 (by kernel_rfl) rfl) _ _ _ _ HC.out).mono ?_
  rintro e w4 ⟨rfl, h4, hk4⟩
  go_wp2
  go_ret
  exact ⟨rfl, h4, (Kept.of_old ho2).tr hk4⟩

set_option maxHeartbeats 2000000 in
theorem delete_no (k : Dsk) (s : List UInt8) (hs : s.length ≤ 100000) (w : World) (h : Dk w k) (hE : fndE k s ≠ 0) :
    Calls Tryd.prog 53 #[ptr k.d, .string (B s)] w fun e w' => e = .returned (.int .i64 (fndE k s)) ∧ Old w w' := by
  have HF := Lib.hid (find_any k s hs)
  rw [fndP_no hE] at HF
  have H := Lib.hid h
  clear h
  generalize fndE k s = E at *
  go_enter Tryd.func53, Tryd.ntmps53
  go_wp2_with fail
  refine (HF.out _ ((H.out.al _).al _)).mono ?_
  rintro e w1 ⟨rfl, o1⟩
  go_wp2
  go_ret
  exact ⟨rfl, ((old_alloc _ _).al _).tr o1⟩

set_option maxHeartbeats 2000000 in
theorem delete_ok (k : Dsk) (s : List UInt8) (w : World) (h : Dk w k) (hz : k.fuse = none) (hu : k.up = true) (hb : bad s = false) (f : Fl) (hf : fnd k.files s = some f) :
    Calls Tryd.prog 53 #[ptr k.d, .string (B s)] w fun e w' => e = .returned (.int .i64 0) ∧ Dk w' (withF k (del s k.files)) ∧ Kept k (withF k (del s k.files)) w w' := by
  obtain ⟨e1, e2⟩ := fndE_of hu hb hf
  have hs1 := bad_no hb
  have HF := Lib.hid (find_any k s (by omega))
  rw [e1, e2] at HF
  have H := Lib.hid h
  clear h e1 e2
  go_enter Tryd.func53, Tryd.ntmps53
  go_wp2_with fail
  refine (HF.out _ ((H.out.al _).al _)).mono ?_
  rintro e w1 ⟨rfl, o1⟩
  have hk2 := ((H.out.al (.cells #[ptr k.d] 25)).al (.cells #[.string (B s)] 9)).old o1
  have bd2 : Bk w1 w.heap.size 25 #[ptr k.d] := ((new_bk w _ _).old (old_alloc _ _)).old o1
  have bn2 : Bk w1 (w.heap.size + 1) 9 #[.string (B s)] := (new_bk' (w.alloc (.cells #[ptr k.d] 25)) _ _ _ (by simp)).old o1
  have ho2 := ((old_alloc w (.cells #[ptr k.d] 25)).al (.cells #[.string (B s)] 9)).tr o1
  clear o1
  have d1 := bd2.at_ 0 rfl
  have HC := Lib.hid (delete1_any k s (by omega) _ _ _ hk2 bd2 bn2)
  have c3 : w1.cell? ⟨k.d, 3, none⟩ = some (gateV k.fuse) := hk2.disk.at_ 3 rfl
  rw [hz] at c3
  have c3' : w1.cell? ⟨k.d, 3, none⟩ = some (.func (.func 48) #[] #[]) := c3
  have hmf := makeF
  clear c3
  clear bd2 bn2 hk2
  go_wp2_with fail
  refine (pass_open 74 (enters_of Tryd.func74 (by kernel_rfl) rfl) _ _ _ _ HC.out).mono ?_
  rintro e w4 ⟨rfl, h4, hk4⟩
  go_wp2
  go_ret
  exact ⟨rfl, h4, (Kept.of_old ho2).tr hk4⟩
end Go.Proofs.YtilimfbjkgeciaaDoor

namespace Go.Proofs.YtilimfbjkgeciaaDoor
set_option maxRecDepth 100000
open Go.RowKit Go.Maps

set_option maxHeartbeats 2000000 in
theorem cut_yes (k : Dsk) (z : Fz) (hz : k.fuse = some z) (h1 : z.n = 1) (g : Nat) (he : ∀ args w, (callFunc g args).run Tryd.prog w = .ok (.enter g args) w) (caps : Array Value) (w : World) (h : Dk w k) (R : Dsk → Prop) (hR : ∀ k', R k' → k'.fuse = k.fuse ∧ k'.d = k.d) (hodd : z.keep.tmod 2 ≠ 0)
    (hdo : Calls Tryd.prog g caps w fun e w' => e = .returned (.tuple #[]) ∧ ∃ k', R k' ∧ Dk w' k' ∧ Kept k k' w w') :
    Calls Tryd.prog 70 #[.int .i64 0, .func (.func g) #[] caps, ptr z.gn, ptr z.gk, ptr z.gd] w fun e w' => e = .returned (.int .i64 6) ∧ ∃ k', R k' ∧ Dk w' (crashK z.keep k') ∧ Kept k (crashK z.keep k') w w' := by
  have hg := h.gate
  rw [hz] at hg
  obtain ⟨_, _, b2, b3, _, b5⟩ := hg
  rw [h1] at b2
  have c2 : w.cell? ⟨z.gn, 0, none⟩ = some (.int .i64 1) := b2.at_ 0 rfl
  have c3 : w.cell? ⟨z.gk, 0, none⟩ = some (.int .i64 z.keep) := b3.at_ 0 rfl
  have hb1 : (z.keep.tmod 2 == 0) = false := by simpa using hodd
  have HD := Lib.hid hdo
  have HR := Lib.hid hR
  have HC := Lib.hid fun k' w' (h' : Dk w' k') => crash_any k' z.keep w' h'
  clear hdo hR h b2 b3 b5
  go_enter Tryd.func70, Tryd.ntmps70
  go_wp2_with fail
  refine (show Calls Tryd.prog g _ _ _ from HD.out).mono ?_
  rintro e w1 ⟨rfl, k', hk', hd1, hkp⟩
  obtain ⟨e1, e2⟩ := HR.out k' hk'
  have hg := hd1.gate
  rw [e1, hz, e2] at hg
  obtain ⟨_, _, b2, b3, _, b5⟩ := hg
  have d3 : w1.cell? ⟨z.gk, 0, none⟩ = some (.int .i64 z.keep) := b3.at_ 0 rfl
  have d5 : w1.cell? ⟨z.gd, 0, none⟩ = some (ptr k.d) := b5.at_ 0 rfl
  have HC2 := Lib.hid (HC.out k' w1 hd1)
  rw [e2] at HC2
  clear b2 b3 b5 e1 e2
  go_wp2_with fail
  refine HC2.out.mono ?_
  rintro e w2 ⟨rfl, hd2, hk2⟩
  go_wp2
  go_ret
  exact ⟨rfl, k', hk', hd2, hkp.tr hk2⟩

set_option maxHeartbeats 2000000 in
theorem cut_no (k : Dsk) (z : Fz) (hz : k.fuse = some z) (h1 : z.n = 1) (fv : Value) (w : World) (h : Dk w k) (hev : z.keep.tmod 2 = 0) :
    Calls Tryd.prog 70 #[.int .i64 0, fv, ptr z.gn, ptr z.gk, ptr z.gd] w fun e w' => e = .returned (.int .i64 6) ∧ Dk w' (crashK z.keep k) ∧ Kept k (crashK z.keep k) w w' := by
  have hg := h.gate
  rw [hz] at hg
  obtain ⟨_, _, b2, b3, _, b5⟩ := hg
  rw [h1] at b2
  have c2 : w.cell? ⟨z.gn, 0, none⟩ = some (.int .i64 1) := b2.at_ 0 rfl
  have c3 : w.cell? ⟨z.gk, 0, none⟩ = some (.int .i64 z.keep) := b3.at_ 0 rfl
  have c5 : w.cell? ⟨z.gd, 0, none⟩ = some (ptr k.d) := b5.at_ 0 rfl
  have HC := Lib.hid (crash_any k z.keep w h)
  clear h b2 b3 b5
  go_enter Tryd.func70, Tryd.ntmps70
  go_wp2_with fail
  refine HC.out.mono ?_
  rintro e w2 ⟨rfl, hd2, hk2⟩
  go_wp2
  go_ret
  exact ⟨rfl, hd2, hk2⟩

/-- A fuse of one call. -/
def fuseK (k : Dsk) (b : Nat) (keep : Int) : Dsk := { k with fuse := some ⟨1, keep, b + 1, b + 2, b⟩ }
set_option maxHeartbeats 2000000 in
theorem fuse_gate (d : Nat) (n keep : Int) (w : World) :
    Calls Tryd.prog 45 #[ptr d, .int .i64 n, .int .i64 keep] w fun e w' => e = .returned (.func (.func 70) #[] #[ptr (w.heap.size + 1), ptr (w.heap.size + 2), ptr w.heap.size]) ∧ w' = ((w.alloc (.cells #[ptr d] 25)).alloc (.cells #[.int .i64 n] 3)).alloc (.cells #[.int .i64 keep] 3) := by
  have hmf := makeF
  go_enter Tryd.func45, Tryd.ntmps45
  go_wp2
  go_ret
  exact ⟨rfl, rfl⟩

set_option maxHeartbeats 2000000 in
theorem fuse_one (k : Dsk) (keep : Int) (w : World) (h : Dk w k) :
    Calls Tryd.prog 18 #[ptr k.d, .int .i64 1, .int .i64 keep] w fun e w' => e = .returned (.tuple #[]) ∧ ∃ b, Dk w' (fuseK k b keep) ∧ Kept k (fuseK k b keep) w w' := by
  have f3 := h.disk.fr 3
  have c3 := h.disk.at_ 3 rfl
  obtain ⟨W, hW⟩ : ∃ W, W = (((w.setCell ⟨k.d, 3, none⟩ gateO).alloc (.cells #[ptr k.d] 25)).alloc (.cells #[.int .i64 1] 3)).alloc (.cells #[.int .i64 keep] 3) := ⟨_, rfl⟩
  have hsz : (w.setCell ⟨k.d, 3, none⟩ gateO).heap.size = w.heap.size := by simp [World.setCell]
  have hlt := h.disk.lt
  have hWb : ∀ i, i < w.heap.size → i ≠ k.d → W.heap[i]? = w.heap[i]? := fun i hi hne => by
    have o := ((old_alloc (w.setCell ⟨k.d, 3, none⟩ gateO) (.cells #[ptr k.d] 25)).al (.cells #[.int .i64 1] 3)).al (.cells #[.int .i64 keep] 3)
    rw [hW, o.block i (by omega), Below.heap_setCell _ _ _ i hne]
  have hWd : Bk W k.d 61 #[.int .i64 (k.cap : Int), .map (some k.m), .bool k.up, gateO] := by
    rw [hW]
    exact (((h.disk.set_ 3 gateO).old (old_alloc _ _)).old (old_alloc _ _)).old (old_alloc _ _)
  have g0 : Bk W w.heap.size 25 #[ptr k.d] := by
    rw [hW]
    exact ((new_bk' _ _ _ _ hsz.symm).old (old_alloc _ _)).old (old_alloc _ _)
  have g1 : Bk W (w.heap.size + 1) 3 #[.int .i64 1] := by
    rw [hW]
    exact (new_bk' _ _ _ _ (by simp [hsz])).old (old_alloc _ _)
  have g2 : Bk W (w.heap.size + 2) 3 #[.int .i64 keep] := by
    rw [hW]
    exact new_bk' _ _ _ _ (by simp [hsz])
  have hWs : W.heap.size = w.heap.size + 3 := by rw [hW]; simp [hsz]
  have hWo : W.os = w.os ∧ W.tape = w.tape ∧ W.output = w.output := by rw [hW]; exact ⟨rfl, rfl, rfl⟩
  have HR := Lib.hid (show Dk (W.setCell ⟨k.d, 3, none⟩ (gateV (fuseK k w.heap.size keep).fuse)) (fuseK k w.heap.size keep) ∧ Kept k (fuseK k w.heap.size keep) w (W.setCell ⟨k.d, 3, none⟩ (gateV (fuseK k w.heap.size keep).fuse)) by
    have hd : ∀ i, i ≠ k.d → (W.setCell ⟨k.d, 3, none⟩ (gateV (fuseK k w.heap.size keep).fuse)).heap[i]? = W.heap[i]? := fun i hi => Below.heap_setCell _ _ _ i hi
    refine ⟨⟨hWd.set_ 3 _, ?_, fun f hf => ?_, ⟨Nat.le_refl _, (show (1 : Nat) ≤ bigN by decide), (hd (w.heap.size + 1) (by omega)).trans g1, (hd (w.heap.size + 2) (by omega)).trans g2, (show w.heap.size + 1 ≠ w.heap.size + 2 by omega), (hd w.heap.size (by omega)).trans g0⟩, ⟨h.ok.1, h.ok.2, h.ok.3, h.ok.4, h.ok.5, h.ok.6, h.ok.7⟩⟩, ⟨hWo.1, hWo.2.1, hWo.2.2, by simp [World.setCell]; omega, fun i hi hn => ?_, fun i hi => ?_⟩⟩
    · obtain ⟨D, h1, h5⟩ := h.map
      have := h1.lt
      obtain ⟨es, c, h3, h4⟩ := h1
      exact ⟨D, ⟨es, c, ((hd _ h.ne_m).trans (hWb _ this h.ne_m)).trans h3, h4⟩, h5⟩
    · exact ((hd _ (h.ne_f hf)).trans (hWb _ (h.files f hf).lt (h.ne_f hf))).trans (h.files f hf)
    · have hne : i ≠ k.d := fun e => hn (by simp [own, e])
      rw [hd i hne, hWb i hi hne]
    · simp only [own, fuseK, gateB, List.mem_cons, List.mem_append, List.not_mem_nil, or_false] at hi ⊢
      rcases hi with hi | hi | (hi | hi | hi) | hi
      · exact .inl (.inl hi)
      · exact .inl (.inr (.inl hi))
      · exact .inr (by omega)
      · exact .inr (by omega)
      · exact .inr (by omega)
      · exact .inl (.inr (.inr (.inr hi))))
  have d3 := hWd.at_ 3 rfl
  have e3 := hWd.fr 3
  have HG := Lib.hid (fuse_gate k.d 1 keep (w.setCell ⟨k.d, 3, none⟩ gateO))
  rw [hsz, ← hW] at HG
  clear h hWb hWd g0 g1 g2 hWs hWo hW
  go_enter Tryd.func18, Tryd.ntmps18
  go_wp2_with (first | (go_at_call 27; refine (gate_any _).mono ?_; rintro e w1 ⟨rfl, rfl⟩) | (go_at_call 45; refine HG.out.mono ?_; rintro e w2 ⟨rfl, rfl⟩))
  refine bodyPost_end (results_none rfl _ _ _) rfl ?_
  exact ⟨rfl, _, HR.out⟩
end Go.Proofs.YtilimfbjkgeciaaDoor
