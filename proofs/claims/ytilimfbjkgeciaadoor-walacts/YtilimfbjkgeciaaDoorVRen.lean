/-
  Rename of the code: its errors; without a fuse; at a fuse's last call. Conditions: the disk lies in memory; lengths as written.
-/
import Derived.Test.YtilimfbjkgeciaaDoorVG
namespace Go.Proofs.YtilimfbjkgeciaaDoor
set_option maxRecDepth 100000
open Go.RowKit Go.Maps

/-- The error of Rename. -/
def renE (k : Dsk) (s t : List UInt8) : Int := if rdyE k [s, t] ≠ 0 then rdyE k [s, t] else fndE k s
theorem renE_ok {k : Dsk} {s t : List UInt8} (h : renE k s t = 0) : ∃ f, fnd k.files s = some f ∧ k.up = true ∧ bad s = false ∧ bad t = false := by
  unfold renE at h
  by_cases h1 : rdyE k [s, t] = 0
  · rw [if_neg (by simpa using h1)] at h
    obtain ⟨f, hf, _, hu, hb⟩ := fndE_ok h
    refine ⟨f, hf, hu, hb, ?_⟩
    unfold rdyE at h1
    cases hb : bad t
    · rfl
    · simp [hb] at h1
      split at h1 <;> cases h1
  · rw [if_pos h1] at h; exact absurd h h1
abbrev ob1 (k : Dsk) : Obj := .cells #[ptr k.d] 25
abbrev ob2 (s : List UInt8) : Obj := .cells #[.string (B s)] 9
abbrev ob4 (s t : List UInt8) : Obj := .cells #[.string (B s), .string (B t)] 9

set_option maxHeartbeats 2000000 in
theorem rename_rdy (k : Dsk) (s t : List UInt8) (hs : s.length ≤ 100000) (ht : t.length ≤ 100000) (w : World) (h : Dk w k) (hE : rdyE k [s, t] ≠ 0) :
    Calls Tryd.prog 59 #[ptr k.d, .string (B s), .string (B t)] w fun e w' => e = .returned (.int .i64 (rdyE k [s, t])) ∧ Old w w' := by
  have HR := Lib.hid (ready2' k s t hs ht)
  have H := Lib.hid h
  clear h
  generalize rdyE k [s, t] = E at *
  go_enter Tryd.func59, Tryd.ntmps59
  go_wp2_with fail
  refine (HR.out _ _ ((((H.out.al _).al _).al _).al _) (new_bk' _ _ _ _ (by simp))).mono ?_
  rintro e w1 ⟨rfl, rfl⟩
  go_wp2
  go_ret
  exact ⟨rfl, (((old_alloc _ _).al _).al _).al _⟩

set_option maxHeartbeats 2000000 in
theorem rename_none (k : Dsk) (s t : List UInt8) (hs : s.length ≤ 100000) (ht : t.length ≤ 100000) (w : World) (h : Dk w k) (hr0 : rdyE k [s, t] = 0) (hE : fndE k s ≠ 0) :
    Calls Tryd.prog 59 #[ptr k.d, .string (B s), .string (B t)] w fun e w' => e = .returned (.int .i64 (fndE k s)) ∧ Old w w' := by
  have HR := Lib.hid (ready2' k s t hs ht)
  rw [hr0] at HR
  have H := Lib.hid h
  have HF := Lib.hid (find_any k s hs)
  rw [fndP_no hE] at HF
  clear hr0
  generalize fndE k s = E at *
  clear h
  go_enter Tryd.func59, Tryd.ntmps59
  go_wp2_with fail
  refine (HR.out _ _ ((((H.out.al _).al _).al _).al _) (new_bk' _ _ _ _ (by simp))).mono ?_
  rintro e w1 ⟨rfl, rfl⟩
  have hk := (((H.out.al (ob1 k)).al (ob2 s)).al (ob2 t)).al (ob4 s t)
  have bd : Bk ((((w.alloc (ob1 k)).alloc (ob2 s)).alloc (ob2 t)).alloc (ob4 s t)) w.heap.size 25 #[ptr k.d] := (((new_bk w _ _).old (old_alloc _ _)).old (old_alloc _ _)).old (old_alloc _ _)
  have bs : Bk ((((w.alloc (ob1 k)).alloc (ob2 s)).alloc (ob2 t)).alloc (ob4 s t)) (w.heap.size + 1) 9 #[.string (B s)] := ((new_bk' (w.alloc (ob1 k)) _ _ _ (by simp)).old (old_alloc _ _)).old (old_alloc _ _)
  have bt : Bk ((((w.alloc (ob1 k)).alloc (ob2 s)).alloc (ob2 t)).alloc (ob4 s t)) (w.heap.size + 2) 9 #[.string (B t)] := (new_bk' ((w.alloc (ob1 k)).alloc (ob2 s)) _ _ _ (by simp)).old (old_alloc _ _)
  have ho := (((old_alloc w (ob1 k)).al (ob2 s)).al (ob2 t)).al (ob4 s t)
  generalize (((w.alloc (ob1 k)).alloc (ob2 s)).alloc (ob2 t)).alloc (ob4 s t) = W at hk bd bs bt ho ⊢
  have d1 : W.cell? ⟨w.heap.size, 0, none⟩ = some (ptr k.d) := bd.at_ 0 rfl
  have d2 : W.cell? ⟨w.heap.size + 1, 0, none⟩ = some (.string (B s)) := bs.at_ 0 rfl
  go_wp2_with fail
  refine (HF.out _ hk).mono ?_
  rintro e w1 ⟨rfl, o1⟩
  go_wp2
  go_ret
  exact ⟨rfl, (ho.tr o1).al _⟩
theorem rename_no (k : Dsk) (s t : List UInt8) (hs : s.length ≤ 100000) (ht : t.length ≤ 100000) (w : World) (h : Dk w k) (hE : renE k s t ≠ 0) :
    Calls Tryd.prog 59 #[ptr k.d, .string (B s), .string (B t)] w fun e w' => e = .returned (.int .i64 (renE k s t)) ∧ Old w w' := by
  unfold renE at *
  by_cases h1 : rdyE k [s, t] = 0
  · rw [if_neg (by simpa using h1)] at hE ⊢
    exact rename_none k s t hs ht w h h1 hE
  · rw [if_pos h1]
    exact rename_rdy k s t hs ht w h h1

set_option maxHeartbeats 2000000 in
theorem rename_ok (k : Dsk) (s t : List UInt8) (w : World) (h : Dk w k) (hz : k.fuse = none) (hu : k.up = true) (hb : bad s = false) (hbt : bad t = false) (f : Fl) (hf : fnd k.files s = some f) :
    Calls Tryd.prog 59 #[ptr k.d, .string (B s), .string (B t)] w fun e w' => e = .returned (.int .i64 0) ∧ Dk w' (renK k f t) ∧ Kept k (renK k f t) w w' := by
  have hr0 : rdyE k [s, t] = 0 := by unfold rdyE; simp [hu, hb, hbt]
  obtain ⟨e1, e2⟩ := fndE_of hu hb hf
  have hs1 := bad_no hb
  have ht1 := bad_no hbt
  have hs : s.length ≤ 100000 := by omega
  have ht : t.length ≤ 100000 := by omega
  have HF := Lib.hid (find_any k s hs)
  rw [e1, e2] at HF
  have HR := Lib.hid (ready2' k s t hs ht)
  rw [hr0] at HR
  have H := Lib.hid h
  have HFM := Lib.hid (fnd_mem hf)
  have HFN := Lib.hid (fnd_name hf)
  clear hr0 e1 e2 hf
  clear h
  go_enter Tryd.func59, Tryd.ntmps59
  go_wp2_with fail
  refine (HR.out _ _ ((((H.out.al _).al _).al _).al _) (new_bk' _ _ _ _ (by simp))).mono ?_
  rintro e w1 ⟨rfl, rfl⟩
  have hk := (((H.out.al (ob1 k)).al (ob2 s)).al (ob2 t)).al (ob4 s t)
  have bd : Bk ((((w.alloc (ob1 k)).alloc (ob2 s)).alloc (ob2 t)).alloc (ob4 s t)) w.heap.size 25 #[ptr k.d] := (((new_bk w _ _).old (old_alloc _ _)).old (old_alloc _ _)).old (old_alloc _ _)
  have bs : Bk ((((w.alloc (ob1 k)).alloc (ob2 s)).alloc (ob2 t)).alloc (ob4 s t)) (w.heap.size + 1) 9 #[.string (B s)] := ((new_bk' (w.alloc (ob1 k)) _ _ _ (by simp)).old (old_alloc _ _)).old (old_alloc _ _)
  have bt : Bk ((((w.alloc (ob1 k)).alloc (ob2 s)).alloc (ob2 t)).alloc (ob4 s t)) (w.heap.size + 2) 9 #[.string (B t)] := (new_bk' ((w.alloc (ob1 k)).alloc (ob2 s)) _ _ _ (by simp)).old (old_alloc _ _)
  have ho := (((old_alloc w (ob1 k)).al (ob2 s)).al (ob2 t)).al (ob4 s t)
  generalize (((w.alloc (ob1 k)).alloc (ob2 s)).alloc (ob2 t)).alloc (ob4 s t) = W at hk bd bs bt ho ⊢
  have d1 : W.cell? ⟨w.heap.size, 0, none⟩ = some (ptr k.d) := bd.at_ 0 rfl
  have d2 : W.cell? ⟨w.heap.size + 1, 0, none⟩ = some (.string (B s)) := bs.at_ 0 rfl
  go_wp2_with fail
  refine (HF.out _ hk).mono ?_
  rintro e w1 ⟨rfl, o1⟩
  have hk2 := (hk.old o1).al (.cells #[ptr f.blk] 81)
  have bf2 := new_bk w1 81 #[ptr f.blk]
  have bd2 := (bd.old o1).old (old_alloc w1 (.cells #[ptr f.blk] 81))
  have bs2 := (bs.old o1).old (old_alloc w1 (.cells #[ptr f.blk] 81))
  have bt2 := (bt.old o1).old (old_alloc w1 (.cells #[ptr f.blk] 81))
  have ho2 := (ho.tr o1).al (.cells #[ptr f.blk] 81)
  have hno : w.heap.size ∉ own k := H.out.newer (Nat.le_refl _)
  rw [← HFN.out] at bs2
  have HC := Lib.hid (rename1_any k f t ht1 _ _ _ _ _ hk2 HFM.out bd2 bs2 bf2 bt2 hno)
  have x1 : (w1.alloc (.cells #[ptr f.blk] 81)).cell? ⟨w.heap.size, 0, none⟩ = some (ptr k.d) := bd2.at_ 0 rfl
  have hmf := makeF
  clear o1 hk bd bs bt ho d1 d2 bd2 bs2 bt2 bf2 hno
  have c3 : (w1.alloc (.cells #[ptr f.blk] 81)).cell? ⟨k.d, 3, none⟩ = some (gateV k.fuse) := hk2.disk.at_ 3 rfl
  rw [hz] at c3
  have c3' : (w1.alloc (.cells #[ptr f.blk] 81)).cell? ⟨k.d, 3, none⟩ = some (.func (.func 48) #[] #[]) := c3
  clear c3 hk2
  go_wp2_with fail
  refine (pass_open 76 (enters_of Tryd.func76 (by kernel_rfl) rfl) _ _ _ _ HC.out).mono ?_
  rintro e w4 ⟨rfl, h4, hk4⟩
  go_wp2
  go_ret
  exact ⟨rfl, h4, (Kept.of_old ho2).tr hk4⟩

set_option maxHeartbeats 2000000 in
theorem rename_cut (k : Dsk) (s t : List UInt8) (w : World) (h : Dk w k) (z : Fz) (hz : k.fuse = some z) (h1 : z.n = 1) (hodd : z.keep.tmod 2 ≠ 0) (hu : k.up = true) (hb : bad s = false) (hbt : bad t = false) (f : Fl) (hf : fnd k.files s = some f) :
    Calls Tryd.prog 59 #[ptr k.d, .string (B s), .string (B t)] w fun e w' => e = .returned (.int .i64 6) ∧ Dk w' (crashK z.keep (renK k f t)) ∧ Kept k (crashK z.keep (renK k f t)) w w' := by
  have hr0 : rdyE k [s, t] = 0 := by unfold rdyE; simp [hu, hb, hbt]
  obtain ⟨e1, e2⟩ := fndE_of hu hb hf
  have hs1 := bad_no hb
  have ht1 := bad_no hbt
  have hs : s.length ≤ 100000 := by omega
  have ht : t.length ≤ 100000 := by omega
  have HF := Lib.hid (find_any k s hs)
  rw [e1, e2] at HF
  have HR := Lib.hid (ready2' k s t hs ht)
  rw [hr0] at HR
  have H := Lib.hid h
  have HFM := Lib.hid (fnd_mem hf)
  have HFN := Lib.hid (fnd_name hf)
  clear hr0 e1 e2 hf
  clear h
  go_enter Tryd.func59, Tryd.ntmps59
  go_wp2_with fail
  refine (HR.out _ _ ((((H.out.al _).al _).al _).al _) (new_bk' _ _ _ _ (by simp))).mono ?_
  rintro e w1 ⟨rfl, rfl⟩
  have hk := (((H.out.al (ob1 k)).al (ob2 s)).al (ob2 t)).al (ob4 s t)
  have bd : Bk ((((w.alloc (ob1 k)).alloc (ob2 s)).alloc (ob2 t)).alloc (ob4 s t)) w.heap.size 25 #[ptr k.d] := (((new_bk w _ _).old (old_alloc _ _)).old (old_alloc _ _)).old (old_alloc _ _)
  have bs : Bk ((((w.alloc (ob1 k)).alloc (ob2 s)).alloc (ob2 t)).alloc (ob4 s t)) (w.heap.size + 1) 9 #[.string (B s)] := ((new_bk' (w.alloc (ob1 k)) _ _ _ (by simp)).old (old_alloc _ _)).old (old_alloc _ _)
  have bt : Bk ((((w.alloc (ob1 k)).alloc (ob2 s)).alloc (ob2 t)).alloc (ob4 s t)) (w.heap.size + 2) 9 #[.string (B t)] := (new_bk' ((w.alloc (ob1 k)).alloc (ob2 s)) _ _ _ (by simp)).old (old_alloc _ _)
  have ho := (((old_alloc w (ob1 k)).al (ob2 s)).al (ob2 t)).al (ob4 s t)
  generalize (((w.alloc (ob1 k)).alloc (ob2 s)).alloc (ob2 t)).alloc (ob4 s t) = W at hk bd bs bt ho ⊢
  have d1 : W.cell? ⟨w.heap.size, 0, none⟩ = some (ptr k.d) := bd.at_ 0 rfl
  have d2 : W.cell? ⟨w.heap.size + 1, 0, none⟩ = some (.string (B s)) := bs.at_ 0 rfl
  go_wp2_with fail
  refine (HF.out _ hk).mono ?_
  rintro e w1 ⟨rfl, o1⟩
  have hk2 := (hk.old o1).al (.cells #[ptr f.blk] 81)
  have bf2 := new_bk w1 81 #[ptr f.blk]
  have bd2 := (bd.old o1).old (old_alloc w1 (.cells #[ptr f.blk] 81))
  have bs2 := (bs.old o1).old (old_alloc w1 (.cells #[ptr f.blk] 81))
  have bt2 := (bt.old o1).old (old_alloc w1 (.cells #[ptr f.blk] 81))
  have ho2 := (ho.tr o1).al (.cells #[ptr f.blk] 81)
  have hno : w.heap.size ∉ own k := H.out.newer (Nat.le_refl _)
  rw [← HFN.out] at bs2
  have HC := Lib.hid (rename1_any k f t ht1 _ _ _ _ _ hk2 HFM.out bd2 bs2 bf2 bt2 hno)
  have x1 : (w1.alloc (.cells #[ptr f.blk] 81)).cell? ⟨w.heap.size, 0, none⟩ = some (ptr k.d) := bd2.at_ 0 rfl
  have hmf := makeF
  clear o1 hk bd bs bt ho d1 d2 bd2 bs2 bt2 bf2 hno
  have c3 : (w1.alloc (.cells #[ptr f.blk] 81)).cell? ⟨k.d, 3, none⟩ = some (gateV k.fuse) := hk2.disk.at_ 3 rfl
  rw [hz] at c3
  have c3' : (w1.alloc (.cells #[ptr f.blk] 81)).cell? ⟨k.d, 3, none⟩ = some (.func (.func 70) #[] #[ptr z.gn, ptr z.gk, ptr z.gd]) := c3
  have HK2 := Lib.hid hk2
  clear c3 hk2
  go_wp2_with fail
  refine (cut_yes k z hz h1 76 (enters_of Tryd.func76 (by kernel_rfl) rfl) _ _ HK2.out (fun k' => k' = renK k f t) (fun k' e => by rw [e]; exact ⟨rfl, rfl⟩) hodd (HC.out.mono fun e w' ⟨h1, h2, h3⟩ => ⟨h1, _, rfl, h2, h3⟩)).mono ?_
  rintro e w4 ⟨rfl, k', rfl, h4, hk4⟩
  go_wp2
  go_ret
  exact ⟨rfl, h4, (Kept.of_old ho2).tr hk4⟩

set_option maxHeartbeats 2000000 in
theorem rename_not (k : Dsk) (s t : List UInt8) (w : World) (h : Dk w k) (z : Fz) (hz : k.fuse = some z) (h1 : z.n = 1) (hev : z.keep.tmod 2 = 0) (hu : k.up = true) (hb : bad s = false) (hbt : bad t = false) (f : Fl) (hf : fnd k.files s = some f) :
    Calls Tryd.prog 59 #[ptr k.d, .string (B s), .string (B t)] w fun e w' => e = .returned (.int .i64 6) ∧ Dk w' (crashK z.keep k) ∧ Kept k (crashK z.keep k) w w' := by
  have hr0 : rdyE k [s, t] = 0 := by unfold rdyE; simp [hu, hb, hbt]
  obtain ⟨e1, e2⟩ := fndE_of hu hb hf
  have hs1 := bad_no hb
  have ht1 := bad_no hbt
  have hs : s.length ≤ 100000 := by omega
  have ht : t.length ≤ 100000 := by omega
  have HF := Lib.hid (find_any k s hs)
  rw [e1, e2] at HF
  have HR := Lib.hid (ready2' k s t hs ht)
  rw [hr0] at HR
  have H := Lib.hid h
  have HFM := Lib.hid (fnd_mem hf)
  have HFN := Lib.hid (fnd_name hf)
  clear hr0 e1 e2 hf
  clear h
  go_enter Tryd.func59, Tryd.ntmps59
  go_wp2_with fail
  refine (HR.out _ _ ((((H.out.al _).al _).al _).al _) (new_bk' _ _ _ _ (by simp))).mono ?_
  rintro e w1 ⟨rfl, rfl⟩
  have hk := (((H.out.al (ob1 k)).al (ob2 s)).al (ob2 t)).al (ob4 s t)
  have bd : Bk ((((w.alloc (ob1 k)).alloc (ob2 s)).alloc (ob2 t)).alloc (ob4 s t)) w.heap.size 25 #[ptr k.d] := (((new_bk w _ _).old (old_alloc _ _)).old (old_alloc _ _)).old (old_alloc _ _)
  have bs : Bk ((((w.alloc (ob1 k)).alloc (ob2 s)).alloc (ob2 t)).alloc (ob4 s t)) (w.heap.size + 1) 9 #[.string (B s)] := ((new_bk' (w.alloc (ob1 k)) _ _ _ (by simp)).old (old_alloc _ _)).old (old_alloc _ _)
  have bt : Bk ((((w.alloc (ob1 k)).alloc (ob2 s)).alloc (ob2 t)).alloc (ob4 s t)) (w.heap.size + 2) 9 #[.string (B t)] := (new_bk' ((w.alloc (ob1 k)).alloc (ob2 s)) _ _ _ (by simp)).old (old_alloc _ _)
  have ho := (((old_alloc w (ob1 k)).al (ob2 s)).al (ob2 t)).al (ob4 s t)
  generalize (((w.alloc (ob1 k)).alloc (ob2 s)).alloc (ob2 t)).alloc (ob4 s t) = W at hk bd bs bt ho ⊢
  have d1 : W.cell? ⟨w.heap.size, 0, none⟩ = some (ptr k.d) := bd.at_ 0 rfl
  have d2 : W.cell? ⟨w.heap.size + 1, 0, none⟩ = some (.string (B s)) := bs.at_ 0 rfl
  go_wp2_with fail
  refine (HF.out _ hk).mono ?_
  rintro e w1 ⟨rfl, o1⟩
  have hk2 := (hk.old o1).al (.cells #[ptr f.blk] 81)
  have bf2 := new_bk w1 81 #[ptr f.blk]
  have bd2 := (bd.old o1).old (old_alloc w1 (.cells #[ptr f.blk] 81))
  have bs2 := (bs.old o1).old (old_alloc w1 (.cells #[ptr f.blk] 81))
  have bt2 := (bt.old o1).old (old_alloc w1 (.cells #[ptr f.blk] 81))
  have ho2 := (ho.tr o1).al (.cells #[ptr f.blk] 81)
  have hno : w.heap.size ∉ own k := H.out.newer (Nat.le_refl _)
  rw [← HFN.out] at bs2
  have HC := Lib.hid (rename1_any k f t ht1 _ _ _ _ _ hk2 HFM.out bd2 bs2 bf2 bt2 hno)
  have x1 : (w1.alloc (.cells #[ptr f.blk] 81)).cell? ⟨w.heap.size, 0, none⟩ = some (ptr k.d) := bd2.at_ 0 rfl
  have hmf := makeF
  clear o1 hk bd bs bt ho d1 d2 bd2 bs2 bt2 bf2 hno
  have c3 : (w1.alloc (.cells #[ptr f.blk] 81)).cell? ⟨k.d, 3, none⟩ = some (gateV k.fuse) := hk2.disk.at_ 3 rfl
  rw [hz] at c3
  have c3' : (w1.alloc (.cells #[ptr f.blk] 81)).cell? ⟨k.d, 3, none⟩ = some (.func (.func 70) #[] #[ptr z.gn, ptr z.gk, ptr z.gd]) := c3
  have HK2 := Lib.hid hk2
  clear c3 hk2
  go_wp2_with fail
  refine (cut_no k z hz h1 _ _ HK2.out hev).mono ?_
  rintro e w4 ⟨rfl, h4, hk4⟩
  go_wp2
  go_ret
  exact ⟨rfl, h4, (Kept.of_old ho2).tr hk4⟩
end Go.Proofs.YtilimfbjkgeciaaDoor
