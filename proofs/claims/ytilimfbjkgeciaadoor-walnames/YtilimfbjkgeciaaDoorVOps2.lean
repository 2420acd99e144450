/-
  Append, Sync, Delete of the code, of a disk without a fuse; their errors, of any disk. Conditions: the disk lies in memory; lengths as written.
-/
import Derived.Test.YtilimfbjkgeciaaDoorVOps
namespace Go.Proofs.YtilimfbjkgeciaaDoor
set_option maxRecDepth 100000
open Go.RowKit Go.Maps

set_option maxHeartbeats 2000000 in
theorem append_no (k : Dsk) (s t : List UInt8) (hs : s.length ≤ 100000) (w : World) (h : Dk w k) (hE : fndE k s ≠ 0) :
    Calls Tryd.prog 40 #[ptr k.d, .string (B s), .string (B t)] w fun e w' => e = .returned (.int .i64 (fndE k s)) ∧ Old w w' := by
  have HF := Lib.hid (find_any k s hs)
  rw [fndP_no hE] at HF
  have H := Lib.hid h
  clear h
  generalize fndE k s = E at *
  go_enter Tryd.func40, Tryd.ntmps40
  go_wp2_with fail
  refine (HF.out _ (H.out.al _)).mono ?_
  rintro e w1 ⟨rfl, o1⟩
  have o2 := (old_alloc w (.cells #[.string (B t)] 9)).tr o1
  go_wp2
  go_ret
  exact ⟨rfl, o2.al _⟩
theorem app_keep {W W1 W2 : World} {g1 g2 : Nat} {u1 u2 : Value} (h1 : Old W W1 ∧ W1.cell? ⟨g1, 0, none⟩ = some u1 ∧ W1.cell? ⟨g2, 0, none⟩ = some u2) (h2 : Old W1 W2) :
    Old W W2 ∧ W2.cell? ⟨g1, 0, none⟩ = some u1 ∧ W2.cell? ⟨g2, 0, none⟩ = some u2 := ⟨h1.1.tr h2, cell_old h1.2.1 h2, cell_old h1.2.2 h2⟩

set_option maxHeartbeats 2000000 in
theorem append_full (k : Dsk) (s t : List UInt8) (ht : t.length ≤ 1000000000000) (w : World) (h : Dk w k) (hu : k.up = true) (hb : bad s = false) (f : Fl) (hf : fnd k.files s = some f) (hl : k.cap < total k.files + t.length) :
    Calls Tryd.prog 40 #[ptr k.d, .string (B s), .string (B t)] w fun e w' => e = .returned (.int .i64 2) ∧ Old w w' := by
  obtain ⟨e1, e2⟩ := fndE_of hu hb hf
  have hs1 := bad_no hb
  have HF := Lib.hid (find_any k s (by omega))
  rw [e1, e2] at HF
  have H := Lib.hid h
  have hcap := h.ok.capb
  have hroom := h.ok.room
  clear h e1 e2
  go_enter Tryd.func40, Tryd.ntmps40
  go_wp2_with fail
  refine (HF.out _ (H.out.al _)).mono ?_
  rintro e w1 ⟨rfl, o1⟩
  have hk := (H.out.al (.cells #[.string (B t)] 9)).old o1
  have bt : Bk w1 w.heap.size 9 #[.string (B t)] := (new_bk w _ _).old o1
  have ho := (old_alloc w (.cells #[.string (B t)] 9)).tr o1
  clear o1
  have hk2 := hk.al (.cells #[ptr f.blk] 81)
  have bt2 := bt.old (old_alloc w1 (.cells #[ptr f.blk] 81))
  have bf2 := new_bk w1 81 #[ptr f.blk]
  have ho2 := ho.al (.cells #[ptr f.blk] 81)
  clear hk bt ho
  go_wp2
  generalize w1.alloc (.cells #[ptr f.blk] 81) = W at hk2 bt2 bf2 ho2 ⊢
  have HZ := Lib.hid fun (W' : World) (o : Old W W') => size_any k W' (hk2.old o)
  have c0 : W.cell? ⟨k.d, 0, none⟩ = some (.int .i64 (k.cap : Int)) := hk2.disk.at_ 0 rfl
  have d2 : W.cell? ⟨w.heap.size, 0, none⟩ = some (.string (B t)) := bt2.at_ 0 rfl
  have hS : Old W W ∧ W.cell? ⟨k.d, 0, none⟩ = some (.int .i64 (k.cap : Int)) ∧ W.cell? ⟨w.heap.size, 0, none⟩ = some (.string (B t)) := ⟨Old.re _, c0, d2⟩
  have wr : IntKind.i64.wrap ((total k.files : Int) + (t.length : Int)) = (total k.files : Int) + (t.length : Int) := by rw [IntKind.wrap_i64]; omega
  go_region_held3 (fun W' => Old W W' ∧ W'.cell? ⟨k.d, 0, none⟩ = some (.int .i64 (k.cap : Int)) ∧ W'.cell? ⟨w.heap.size, 0, none⟩ = some (.string (B t))) (first | exact ⟨hS.1.dr, hS.2⟩ | exact app_keep (by assumption) (by assumption))
    (first
      | (go_at_call 25; with_reducible refine (HZ.out _ (And.left (by assumption))).mono ?_; rintro r w3 ⟨rfl, h3⟩))
  have f3 : Old W w3 := And.left (by assumption)
  have hgt : decide ((k.cap : Int) < (total k.files : Int) + (t.length : Int)) = true := by simp; omega
  clear wr hS c0 d2
  go_wp2
  go_ret
  exact ⟨rfl, ho2.tr f3⟩

set_option maxHeartbeats 2000000 in
theorem append_ok (k : Dsk) (s t : List UInt8) (w : World) (h : Dk w k) (hz : k.fuse = none) (hu : k.up = true) (hb : bad s = false) (f : Fl) (hf : fnd k.files s = some f) (hl : total k.files + t.length ≤ k.cap) :
    Calls Tryd.prog 40 #[ptr k.d, .string (B s), .string (B t)] w fun e w' => e = .returned (.int .i64 0) ∧ Dk w' (setK k f.blk (f.s ++ t) f.n) ∧ Kept k (setK k f.blk (f.s ++ t) f.n) w w' := by
  obtain ⟨e1, e2⟩ := fndE_of hu hb hf
  have hs1 := bad_no hb
  have HF := Lib.hid (find_any k s (by omega))
  rw [e1, e2] at HF
  have H := Lib.hid h
  have hcap := h.ok.capb
  have hroom := h.ok.room
  clear h e1 e2
  go_enter Tryd.func40, Tryd.ntmps40
  go_wp2_with fail
  refine (HF.out _ (H.out.al _)).mono ?_
  rintro e w1 ⟨rfl, o1⟩
  have hk := (H.out.al (.cells #[.string (B t)] 9)).old o1
  have bt : Bk w1 w.heap.size 9 #[.string (B t)] := (new_bk w _ _).old o1
  have ho := (old_alloc w (.cells #[.string (B t)] 9)).tr o1
  clear o1
  have hk2 := hk.al (.cells #[ptr f.blk] 81)
  have bt2 := bt.old (old_alloc w1 (.cells #[ptr f.blk] 81))
  have bf2 := new_bk w1 81 #[ptr f.blk]
  have ho2 := ho.al (.cells #[ptr f.blk] 81)
  clear hk bt ho
  go_wp2
  generalize w1.alloc (.cells #[ptr f.blk] 81) = W at hk2 bt2 bf2 ho2 ⊢
  have HZ := Lib.hid fun (W' : World) (o : Old W W') => size_any k W' (hk2.old o)
  have c0 : W.cell? ⟨k.d, 0, none⟩ = some (.int .i64 (k.cap : Int)) := hk2.disk.at_ 0 rfl
  have d2 : W.cell? ⟨w.heap.size, 0, none⟩ = some (.string (B t)) := bt2.at_ 0 rfl
  have hS : Old W W ∧ W.cell? ⟨k.d, 0, none⟩ = some (.int .i64 (k.cap : Int)) ∧ W.cell? ⟨w.heap.size, 0, none⟩ = some (.string (B t)) := ⟨Old.re _, c0, d2⟩
  have wr : IntKind.i64.wrap ((total k.files : Int) + (t.length : Int)) = (total k.files : Int) + (t.length : Int) := by rw [IntKind.wrap_i64]; omega
  go_region_held3 (fun W' => Old W W' ∧ W'.cell? ⟨k.d, 0, none⟩ = some (.int .i64 (k.cap : Int)) ∧ W'.cell? ⟨w.heap.size, 0, none⟩ = some (.string (B t))) (first | exact ⟨hS.1.dr, hS.2⟩ | exact app_keep (by assumption) (by assumption))
    (first
      | (go_at_call 25; with_reducible refine (HZ.out _ (And.left (by assumption))).mono ?_; rintro r w3 ⟨rfl, h3⟩))
  have f3 : Old W w3 := And.left (by assumption)
  have hgt : decide ((k.cap : Int) < (total k.files : Int) + (t.length : Int)) = false := by simp; omega
  clear wr hS c0 d2
  have hk3 := hk2.old f3
  have ho3 := ho2.tr f3
  have HC := Lib.hid (append1_any k f t _ _ w3 hk3 (fnd_mem hf) (bf2.old f3) (bt2.old f3) hl)
  have c3 : w3.cell? ⟨k.d, 3, none⟩ = some (gateV k.fuse) := hk3.disk.at_ 3 rfl
  rw [hz] at c3
  have c3' : w3.cell? ⟨k.d, 3, none⟩ = some (.func (.func 48) #[] #[]) := c3
  have hmf := makeF
  clear c3
  go_wp2_with fail
  refine (pass_open 68 (enters_of Tryd.func68 (by kernel_rfl) rfl) _ _ _ _ HC.out).mono ?_
  rintro e w4 ⟨rfl, h4, hk4⟩
  go_wp2
  go_ret
  exact ⟨rfl, h4, (Kept.of_old ho3).tr hk4⟩

set_option maxHeartbeats 2000000 in
theorem sync_no (k : Dsk) (s : List UInt8) (hs : s.length ≤ 100000) (w : World) (h : Dk w k) (hE : fndE k s ≠ 0) :
    Calls Tryd.prog 30 #[ptr k.d, .string (B s)] w fun e w' => e = .returned (.int .i64 (fndE k s)) ∧ Old w w' := by
  have HF := Lib.hid (find_any k s hs)
  rw [fndP_no hE] at HF
  have H := Lib.hid h
  clear h
  generalize fndE k s = E at *
  go_enter Tryd.func30, Tryd.ntmps30
  go_wp2_with fail
  refine (HF.out _ H.out).mono ?_
  rintro e w1 ⟨rfl, o1⟩
  go_wp2
  go_ret
  exact ⟨rfl, o1.al _⟩

set_option maxHeartbeats 2000000 in
theorem sync_ok (k : Dsk) (s : List UInt8) (w : World) (h : Dk w k) (hz : k.fuse = none) (hu : k.up = true) (hb : bad s = false) (f : Fl) (hf : fnd k.files s = some f) :
    Calls Tryd.prog 30 #[ptr k.d, .string (B s)] w fun e w' => e = .returned (.int .i64 0) ∧ Dk w' (setK k f.blk f.s f.s.length) ∧ Kept k (setK k f.blk f.s f.s.length) w w' := by
  obtain ⟨e1, e2⟩ := fndE_of hu hb hf
  have hs1 := bad_no hb
  have HF := Lib.hid (find_any k s (by omega))
  rw [e1, e2] at HF
  have H := Lib.hid h
  clear h e1 e2
  go_enter Tryd.func30, Tryd.ntmps30
  go_wp2_with fail
  refine (HF.out _ H.out).mono ?_
  rintro e w1 ⟨rfl, o1⟩
  have hk2 := (H.out.old o1).al (.cells #[ptr f.blk] 81)
  have bf2 := new_bk w1 81 #[ptr f.blk]
  have ho2 := o1.al (.cells #[ptr f.blk] 81)
  clear o1
  have HC := Lib.hid (sync1_any k f _ _ hk2 (fnd_mem hf) bf2)
  have c3 : (w1.alloc (.cells #[ptr f.blk] 81)).cell? ⟨k.d, 3, none⟩ = some (gateV k.fuse) := hk2.disk.at_ 3 rfl
  rw [hz] at c3
  have c3' : (w1.alloc (.cells #[ptr f.blk] 81)).cell? ⟨k.d, 3, none⟩ = some (.func (.func 48) #[] #[]) := c3
  have hmf := makeF
  clear c3
  clear bf2 hk2
  go_wp2_with fail
  refine (pass_open 51 (enters_of Tryd.func51 (by kernel_rfl) rfl) _ _ _ _ HC.out).mono ?_
  rintro e w4 ⟨rfl, h4, hk4⟩
  go_wp2
  go_ret
  exact ⟨rfl, h4, (Kept.of_old ho2).tr hk4⟩

set_option maxHeartbeats 2000000 in
theorem delete_no (k : Dsk) (s : List UInt8) (hs : s.length ≤ 100000) (w : World) (h : Dk w k) (hE : fndE k s ≠ 0) :
    Calls Tryd.prog 53 #[ptr k.d, .string (B s)] w fun e w' => e = .returned (.int .i64 (fndE k s)) ∧ Old w w' := by
  have HF := Lib.hid (find_any k s hs)
  rw [fndP_no hE] at HF
  have H := Lib.hid h
  clear h
  generalize fndE k s = E at *
  go_enter Tryd.func53, Tryd.ntmps53
  go_wp2_with fail
  refine (HF.out _ ((H.out.al _).al _)).mono ?_
  rintro e w1 ⟨rfl, o1⟩
  go_wp2
  go_ret
  exact ⟨rfl, ((old_alloc _ _).al _).tr o1⟩

set_option maxHeartbeats 2000000 in
theorem delete_ok (k : Dsk) (s : List UInt8) (w : World) (h : Dk w k) (hz : k.fuse = none) (hu : k.up = true) (hb : bad s = false) (f : Fl) (hf : fnd k.files s = some f) :
    Calls Tryd.prog 53 #[ptr k.d, .string (B s)] w fun e w' => e = .returned (.int .i64 0) ∧ Dk w' (withF k (del s k.files)) ∧ Kept k (withF k (del s k.files)) w w' := by
  obtain ⟨e1, e2⟩ := fndE_of hu hb hf
  have hs1 := bad_no hb
  have HF := Lib.hid (find_any k s (by omega))
  rw [e1, e2] at HF
  have H := Lib.hid h
  clear h e1 e2
  go_enter Tryd.func53, Tryd.ntmps53
  go_wp2_with fail
  refine (HF.out _ ((H.out.al _).al _)).mono ?_
  rintro e w1 ⟨rfl, o1⟩
  have hk2 := ((H.out.al (.cells #[ptr k.d] 25)).al (.cells #[.string (B s)] 9)).old o1
  have bd2 : Bk w1 w.heap.size 25 #[ptr k.d] := ((new_bk w _ _).old (old_alloc _ _)).old o1
  have bn2 : Bk w1 (w.heap.size + 1) 9 #[.string (B s)] := (new_bk' (w.alloc (.cells #[ptr k.d] 25)) _ _ _ (by simp)).old o1
  have ho2 := ((old_alloc w (.cells #[ptr k.d] 25)).al (.cells #[.string (B s)] 9)).tr o1
  clear o1
  have d1 := bd2.at_ 0 rfl
  have HC := Lib.hid (delete1_any k s (by omega) _ _ _ hk2 bd2 bn2)
  have c3 : w1.cell? ⟨k.d, 3, none⟩ = some (gateV k.fuse) := hk2.disk.at_ 3 rfl
  rw [hz] at c3
  have c3' : w1.cell? ⟨k.d, 3, none⟩ = some (.func (.func 48) #[] #[]) := c3
  have hmf := makeF
  clear c3
  clear bd2 bn2 hk2
  go_wp2_with fail
  refine (pass_open 74 (enters_of Tryd.func74 (by kernel_rfl) rfl) _ _ _ _ HC.out).mono ?_
  rintro e w4 ⟨rfl, h4, hk4⟩
  go_wp2
  go_ret
  exact ⟨rfl, h4, (Kept.of_old ho2).tr hk4⟩
end Go.Proofs.YtilimfbjkgeciaaDoor
