/-
  Texts in one: VDo VDo2. Conditions: as each theorem writes them.
-/
import Derived.Test.YtilimfbjkgeciaaDoorVCrash
import Derived.Deep.RegionLaw
namespace Go.Proofs.YtilimfbjkgeciaaDoor
set_option maxRecDepth 100000
open Go.RowKit Go.Maps

theorem add_B (a b : List UInt8) : B a ++ B b = B (a ++ b) := by
  apply ByteArray.ext
  simp [B]

set_option maxHeartbeats 2000000 in
theorem append1_any (k : Dsk) (f : Fl) (t : List UInt8) (g1 g2 : Nat) (w : World) (h : Dk w k) (hf : f ∈ k.files) (b1 : Bk w g1 81 #[ptr f.blk]) (b2 : Bk w g2 9 #[.string (B t)]) (hr : total k.files + t.length ≤ k.cap) :
    Calls Tryd.prog 68 #[ptr g1, ptr g2] w fun e w' => e = .returned (.tuple #[]) ∧ Dk w' (setK k f.blk (f.s ++ t) f.n) ∧ Kept k (setK k f.blk (f.s ++ t) f.n) w w' := by
  have hb := h.files f hf
  have c0 := hb.at_ 0 rfl
  have f0 := hb.fr 0
  have d1 := b1.at_ 0 rfl
  have d2 := b2.at_ 0 rfl
  have hle := len_le_total hf
  have hcap := h.ok.capb
  have i7 : ¬ 9223372036854775807 < f.s.length + t.length := by omega
  have i8 : (9223372036854775807 < f.s.length + t.length) = False := by simpa using i7
  have HR := Lib.hid (h.setF hf (w2 := (w.setCell ⟨f.blk, 0, none⟩ (.string (B (f.s ++ t)))).drew) (s := f.s ++ t) (n := f.n) (hb.set_ 0 (.string (B (f.s ++ t)))) (by have := h.ok.syn f hf; simp; omega) (by simp; omega) (grown_drew (grown_set _ (grown_re _ _))))
  clear h hb b1 b2
  go_enter Tryd.func68, Tryd.ntmps68
  go_wp2
  go_still_tail 8, (by kernel_rfl)
  go_wp2
  refine bodyPost_end (results_none rfl _ _ _) rfl ?_
  rw [add_B]
  exact ⟨rfl, HR.out⟩

set_option maxHeartbeats 2000000 in
theorem sync1_any (k : Dsk) (f : Fl) (g1 : Nat) (w : World) (h : Dk w k) (hf : f ∈ k.files) (b1 : Bk w g1 81 #[ptr f.blk]) :
    Calls Tryd.prog 51 #[ptr g1] w fun e w' => e = .returned (.tuple #[]) ∧ Dk w' (setK k f.blk f.s f.s.length) ∧ Kept k (setK k f.blk f.s f.s.length) w w' := by
  have hb := h.files f hf
  have c0 := hb.at_ 0 rfl
  have c1 := hb.at_ 1 rfl
  have f1 := hb.fr 1
  have d1 := b1.at_ 0 rfl
  have HR := Lib.hid (h.setF hf (w2 := (w.setCell ⟨f.blk, 1, none⟩ (.int .i64 (f.s.length : Int))).drew) (s := f.s) (n := f.s.length) (hb.set_ 1 (.int .i64 (f.s.length : Int))) (Nat.le_refl _) (by have := h.ok.room; omega) (grown_drew (grown_set _ (grown_re _ _))))
  clear h hb b1
  go_enter Tryd.func51, Tryd.ntmps51
  go_wp2
  go_still_tail 8, (by kernel_rfl)
  go_wp2
  refine bodyPost_end (results_none rfl _ _ _) rfl ?_
  exact ⟨rfl, HR.out⟩

def withF (k : Dsk) (L : List Fl) : Dsk := { k with files := L }
/-- The map has other files. -/
theorem Dk.mapped0 {w w2 : World} {k : Dsk} {L : List Fl} (h : Dk w k) (hg : w.grownBy w2 (some k.m)) (hm : ∃ D n, w2.ownsMap Tryd.prog 9 ptrR k.m n D ∧ Rep D L) (hf : ∀ f ∈ L, Bk w f.blk 85 (fcells f)) (hok : Ok (withF k L)) : Dk w2 (withF k L) := by
  have keep : ∀ i, i < w.heap.size → i ≠ k.m → w2.heap[i]? = w.heap[i]? := fun i hi hne => hg.block i hi (fun e => hne (by injection e))
  have nem : ∀ {g : Nat} {t : TypeId} {cs : Array Value}, Bk w g t cs → g ≠ k.m := fun {g t cs} hb e => by
    obtain ⟨D, ⟨es, c, h3, _⟩, _⟩ := h.map
    unfold Bk at hb
    rw [e, h3] at hb
    cases hb
  refine ⟨(keep _ h.disk.lt (nem h.disk)).trans h.disk, ?_, fun f hx => (keep _ (hf f hx).lt (nem (hf f hx))).trans (hf f hx), h.gate.kept fun i hi hlt => keep i hlt ?_, hok⟩
  · obtain ⟨D, n, h1, h2⟩ := hm
    have := ownsMap_tight h1
    rw [h2.size] at this
    exact ⟨D, this, h2⟩
  · have hgt := h.gate
    cases hz : k.fuse with
    | none => rw [hz] at hi; cases hi
    | some z =>
      rw [hz] at hi hgt
      obtain ⟨_, _, b2, b3, _, b5⟩ := hgt
      simp only [gateB, List.mem_cons, List.not_mem_nil, or_false] at hi
      rcases hi with rfl | rfl | rfl
      · exact nem b2
      · exact nem b3
      · exact nem b5
theorem Dk.mapped {w0 w w2 : World} {k : Dsk} {L : List Fl} (h : Dk w k) (o : Old w0 w) (hg : w.grownBy w2 (some k.m)) (hm : ∃ D n, w2.ownsMap Tryd.prog 9 ptrR k.m n D ∧ Rep D L) (hf : ∀ f ∈ L, Bk w f.blk 85 (fcells f)) (hok : Ok (withF k L))
    (hown : ∀ f ∈ L, f.blk ∈ own k ∨ w0.heap.size ≤ f.blk) : Dk w2 (withF k L) ∧ Kept k (withF k L) w0 w2 := by
  refine ⟨h.mapped0 hg hm hf hok, ⟨hg.os.trans o.os, hg.tape.trans o.tape, hg.output.trans o.output, Nat.le_trans o.size hg.size, fun i hi hn => ?_, fun i hi => ?_⟩⟩
  · rw [hg.block i (Nat.lt_of_lt_of_le hi o.size) (fun e => hn (by injection e with e; rw [e]; simp [own])), o.block i hi]
  · simp only [own, withF, List.mem_cons, List.mem_append] at hi ⊢
    rcases hi with hi | hi | hi | hi
    · exact .inl (.inl hi)
    · exact .inl (.inr (.inl hi))
    · exact .inl (.inr (.inr (.inl hi)))
    · obtain ⟨f, hx, rfl⟩ := List.mem_map.1 hi
      have := hown f hx
      simpa only [own, List.mem_cons, List.mem_append] using this
theorem own_file {k : Dsk} {f : Fl} (hf : f ∈ k.files) : f.blk ∈ own k := by
  simp only [own, List.mem_cons, List.mem_append]
  exact .inr (.inr (.inr (List.mem_map.2 ⟨f, hf, rfl⟩)))
theorem ok_del {k : Dsk} (h : Ok k) (s : List UInt8) : Ok (withF k (del s k.files)) :=
  ⟨nodup_del _ _ h.names, nodup_del _ _ h.blks, fun f hf => h.syn f (mem_del.1 hf).1, fun f hf => h.nm f (mem_del.1 hf).1, Nat.le_trans (total_del_le s k.files) h.room, Nat.le_trans (List.length_filter_le _ _) h.many, h.capb⟩
theorem ok_put {k : Dsk} (h : Ok k) (f : Fl) (h1 : ∀ g ∈ k.files, g.name ≠ f.name → g.blk ≠ f.blk) (h2 : f.n ≤ f.s.length) (h3 : 1 ≤ f.name.length ∧ f.name.length ≤ 60) (h4 : total k.files + f.s.length ≤ k.cap) (h5 : (fnd k.files f.name).isSome ∨ k.files.length < 200) : Ok (withF k (put f k.files)) := by
  refine ⟨nodup_names_put _ h.names, nodup_blks_put _ h.blks h1, fun g hg => ?_, fun g hg => ?_, Nat.le_trans (total_put_le f k.files) h4, ?_, h.capb⟩
  · rcases mem_put.1 hg with hg | rfl
    · exact h.syn g hg.1
    · exact h2
  · rcases mem_put.1 hg with hg | rfl
    · exact h.nm g hg.1
    · exact h3
  · have hl := len_del h.names f.name
    have := h.many
    show (put f k.files).length ≤ 200
    unfold put
    rw [List.length_append, List.length_singleton]
    rcases h5 with h5 | h5
    · rw [h5] at hl; simp at hl; omega
    · have := List.length_filter_le (fun g : Fl => g.name != f.name) k.files
      unfold del at hl ⊢
      omega

set_option maxHeartbeats 2000000 in
theorem delete1_any (k : Dsk) (s : List UInt8) (hs : s.length ≤ 100000) (g1 g2 : Nat) (w : World) (h : Dk w k) (b1 : Bk w g1 25 #[ptr k.d]) (b2 : Bk w g2 9 #[.string (B s)]) :
    Calls Tryd.prog 74 #[ptr g1, ptr g2] w fun e w' => e = .returned (.tuple #[]) ∧ Dk w' (withF k (del s k.files)) ∧ Kept k (withF k (del s k.files)) w w' := by
  have c1 := h.disk.at_ 1 rfl
  have d1 := b1.at_ 0 rfl
  have d2 := b2.at_ 0 rfl
  obtain ⟨D, hown, hR⟩ := h.map
  have hown' : w.drew.ownsMap Tryd.prog 9 ptrR k.m k.files.length D := hown
  have HR := Lib.hid fun (w2 : World) (h1 : w2.ownsMap Tryd.prog 9 ptrR k.m k.files.length (D.del (.string s))) (hg : w.grownBy w2 (some k.m)) =>
    h.mapped (L := del s k.files) (Old.re w) hg ⟨_, _, h1, hR.del (hown.tidy lawS) h.ok.names s⟩ (fun f hf => h.files f (mem_del.1 hf).1) (ok_del h.ok s) (fun f hf => .inl (own_file (mem_del.1 hf).1))
  clear h b1 b2 hown
  go_enter Tryd.func74, Tryd.ntmps74
  go_wp2
  go_still_tail 5, (by kernel_rfl)
  change wpList _ _ _ _ _ w.drew
  go_wp2_with (first | (at_delete; refine wpList_delete_own _ rfl _ _ 56 9 rfl 81 lawS Tryd.underlying56 _ k.m k.files.length D rfl hown' _ _ rfl (keyS s hs) ?_; intro w1 hown1 hturn1) | fail)
  refine bodyPost_end (results_none rfl _ _ _) rfl ?_
  have hg : w.grownBy w1 (some k.m) := ⟨hturn1.grown.os, hturn1.grown.tape, hturn1.grown.output, hturn1.grown.size, hturn1.grown.block⟩
  exact ⟨rfl, HR.out w1 hown1 hg⟩
end Go.Proofs.YtilimfbjkgeciaaDoor

namespace Go.Proofs.YtilimfbjkgeciaaDoor
set_option maxRecDepth 100000
open Go.RowKit Go.Maps

theorem ne_box {w : World} {k : Dsk} (h : Dk w k) (s : List UInt8) (hs1 : 1 ≤ s.length ∧ s.length ≤ 60) (hm : k.files.length < 200) {w2 : World} {n : Nat} {D : DataW Unit} (hR : Rep D k.files) (ht : Tidy D)
    (h1 : w2.ownsMap Tryd.prog 9 ptrR k.m n (D.put (.string s) (tok w.heap.size))) (hg : (w.alloc (.cells #[.string ⟨#[]⟩, .int .i64 0] 85)).grownBy w2 (some k.m)) :
    Dk w2 (withF k (put ⟨s, w.heap.size, [], 0⟩ k.files)) ∧ Kept k (withF k (put ⟨s, w.heap.size, [], 0⟩ k.files)) w w2 := by
  have h' := h.old (old_alloc w (.cells #[.string ⟨#[]⟩, .int .i64 0] 85))
  refine h'.mapped (L := put ⟨s, w.heap.size, [], 0⟩ k.files) (old_alloc _ _) hg ⟨_, _, h1, hR.put ht h.ok.names ⟨s, w.heap.size, [], 0⟩⟩ (fun f hf => ?_) (ok_put h.ok _ (fun g hg _ e => ?_) (Nat.le_refl _) hs1 (by simpa using h.ok.room) (.inr hm)) (fun f hf => ?_)
  · rcases mem_put.1 hf with hf | rfl
    · exact h'.files f hf.1
    · exact new_bk w _ _
  · have := (h.files g hg).lt
    simp only at e
    omega
  · rcases mem_put.1 hf with hf | rfl
    · exact .inl (own_file hf.1)
    · exact .inr (Nat.le_refl _)

set_option maxHeartbeats 2000000 in
theorem create1_any (k : Dsk) (s : List UInt8) (hs : 1 ≤ s.length ∧ s.length ≤ 60) (g1 g2 : Nat) (w : World) (h : Dk w k) (b1 : Bk w g1 25 #[ptr k.d]) (b2 : Bk w g2 9 #[.string (B s)]) (hm : k.files.length < 200) :
    Calls Tryd.prog 75 #[ptr g1, ptr g2] w fun e w' => e = .returned (.tuple #[]) ∧ ∃ b, Dk w' (withF k (put ⟨s, b, [], 0⟩ k.files)) ∧ Kept k (withF k (put ⟨s, b, [], 0⟩ k.files)) w w' := by
  have c1 := h.disk.at_ 1 rfl
  have d1 := b1.at_ 0 rfl
  have d2 := b2.at_ 0 rfl
  obtain ⟨D, hown, hR⟩ := h.map
  have hown' : (w.alloc (.cells #[.string ⟨#[]⟩, .int .i64 0] 85)).drew.ownsMap Tryd.prog 9 ptrR k.m k.files.length D := hown.alloc _
  obtain ⟨w2, hrun, r1, r2⟩ := hown'.update lawS Tryd.underlying56 (by unfold maxLen; omega) (keyS s (by omega)) (ptrR_ptr w.heap.size)
  have HR := Lib.hid (ne_box h s hs hm hR (hown.tidy lawS) r1 ⟨r2.os, r2.tape, r2.output, r2.size, r2.block⟩)
  clear r1 r2 hown'
  have x1 := (h.disk.old (old_alloc w (.cells #[.string ⟨#[]⟩, .int .i64 0] 85))).at_ 1 rfl
  have x2 := (b1.old (old_alloc w (.cells #[.string ⟨#[]⟩, .int .i64 0] 85))).at_ 0 rfl
  have x3 := (b2.old (old_alloc w (.cells #[.string ⟨#[]⟩, .int .i64 0] 85))).at_ 0 rfl
  clear h b1 b2 hown
  go_enter Tryd.func75, Tryd.ntmps75
  go_wp2
  go_region
  all_goals go_wp2
  all_goals refine bodyPost_end (results_none rfl _ _ _) rfl ?_
  all_goals exact ⟨rfl, _, HR.out⟩

/-- The file with another name. -/
def toN (f : Fl) (to : List UInt8) : Fl := { f with name := to }
def renK (k : Dsk) (f : Fl) (to : List UInt8) : Dsk := withF k (put (toN f to) (del f.name k.files))
theorem ren_end {w w1 w2 : World} {k : Dsk} {f : Fl} {to : List UInt8} (h : Dk w k) (hf : f ∈ k.files) (ht : 1 ≤ to.length ∧ to.length ≤ 60) (hk1 : Dk w1 (withF k (del f.name k.files))) (hkp : Kept k (withF k (del f.name k.files)) w w1) (hb : Bk w1 f.blk 85 (fcells f))
    {n : Nat} {D : DataW Unit} (hR : Rep D (del f.name k.files)) (hty : Tidy D) (h1 : w2.ownsMap Tryd.prog 9 ptrR k.m n (D.put (.string to) (tok f.blk))) (hg : w1.grownBy w2 (some k.m)) :
    Dk w2 (renK k f to) ∧ Kept k (renK k f to) w w2 := by
  have htot := total_del h.ok.names hf
  have hlen := len_del h.ok.names f.name
  rw [fnd_of_mem h.ok.names hf] at hlen
  simp at hlen
  have hroom := h.ok.room
  have hmany := h.ok.many
  have h2 := hk1.mapped0 (L := put (toN f to) (del f.name k.files)) hg ⟨_, _, h1, hR.put hty hk1.ok.names (toN f to)⟩ (fun g hgm => by
    rcases mem_put.1 hgm with hgm | rfl
    · exact hk1.files g hgm.1
    · exact hb) (ok_put hk1.ok (toN f to) (fun g hgm _ e => (mem_del.1 hgm).2 (by rw [blk_eq h.ok.blks (mem_del.1 hgm).1 hf e])) (h.ok.syn f hf) ht (by show total (del f.name k.files) + f.s.length ≤ k.cap; omega) (.inr (by show (del f.name k.files).length < 200; omega)))
  refine ⟨h2, ⟨hg.os.trans hkp.os, hg.tape.trans hkp.tape, hg.output.trans hkp.output, Nat.le_trans hkp.size hg.size, fun i hi hn => ?_, fun i hi => ?_⟩⟩
  · rw [hg.block i (Nat.lt_of_lt_of_le hi hkp.size) (fun e => hn (by injection e with e; rw [e]; simp [own])), hkp.block i hi hn]
  · simp only [own, renK, withF, List.mem_cons, List.mem_append] at hi ⊢
    rcases hi with hi | hi | hi | hi
    · exact .inl (.inl hi)
    · exact .inl (.inr (.inl hi))
    · exact .inl (.inr (.inr (.inl hi)))
    · obtain ⟨g, hgm, rfl⟩ := List.mem_map.1 hi
      rcases mem_put.1 hgm with hgm | rfl
      · exact .inl (.inr (.inr (.inr (List.mem_map.2 ⟨g, (mem_del.1 hgm.1).1, rfl⟩))))
      · exact .inl (.inr (.inr (.inr (List.mem_map.2 ⟨f, hf, rfl⟩))))

set_option maxHeartbeats 2000000 in
theorem rename1_any (k : Dsk) (f : Fl) (to : List UInt8) (ht : 1 ≤ to.length ∧ to.length ≤ 60) (g1 g2 g3 g4 : Nat) (w : World) (h : Dk w k) (hf : f ∈ k.files) (b1 : Bk w g1 25 #[ptr k.d]) (b2 : Bk w g2 9 #[.string (B f.name)]) (b3 : Bk w g3 81 #[ptr f.blk]) (b4 : Bk w g4 9 #[.string (B to)]) (o1 : g1 ∉ own k) :
    Calls Tryd.prog 76 #[ptr g1, ptr g2, ptr g3, ptr g4] w fun e w' => e = .returned (.tuple #[]) ∧ Dk w' (renK k f to) ∧ Kept k (renK k f to) w w' := by
  have c1 := h.disk.at_ 1 rfl
  have d1 := b1.at_ 0 rfl
  have d2 := b2.at_ 0 rfl
  have hfn := (h.ok.nm f hf).2
  obtain ⟨D, hown, hR⟩ := h.map
  have hown' : w.drew.ownsMap Tryd.prog 9 ptrR k.m k.files.length D := hown
  have HR := Lib.hid fun (w2 : World) (h1 : w2.ownsMap Tryd.prog 9 ptrR k.m k.files.length (D.del (.string f.name))) (hg : w.grownBy w2 (some k.m)) =>
    h.mapped (L := del f.name k.files) (Old.re w) hg ⟨_, _, h1, hR.del (hown.tidy lawS) h.ok.names f.name⟩ (fun f hf => h.files f (mem_del.1 hf).1) (ok_del h.ok f.name) (fun f hf => .inl (own_file (mem_del.1 hf).1))
  have o3 : g3 ∉ own k := h.other b3 (by decide) (by decide) (by decide) (by decide)
  have o4 : g4 ∉ own k := h.other b4 (by decide) (by decide) (by decide) (by decide)
  have hmany := h.ok.many
  have hneb : f.blk ≠ k.m := fun e => by
    have hb := h.files f hf
    obtain ⟨D, ⟨es, c, h3, _⟩, _⟩ := h.map
    unfold Bk at hb
    rw [e, h3] at hb
    cases hb
  have H := Lib.hid h
  have HRD := Lib.hid (hR.del (hown.tidy lawS) h.ok.names f.name)
  clear h hown b2
  go_enter Tryd.func76, Tryd.ntmps76
  go_wp2
  go_still_tail 5, (by kernel_rfl)
  change wpList _ _ _ _ _ w.drew
  go_wp2_with (first | (at_delete; refine wpList_delete_own _ rfl _ _ 56 9 rfl 81 lawS Tryd.underlying56 _ k.m k.files.length D rfl hown' _ _ rfl (keyS f.name (by omega)) ?_; intro w1 hown1 hturn1) | fail)
  have hg1 : w.grownBy w1 (some k.m) := ⟨hturn1.grown.os, hturn1.grown.tape, hturn1.grown.output, hturn1.grown.size, hturn1.grown.block⟩
  obtain ⟨hk1, hkp1⟩ := HR.out w1 hown1 hg1
  have e1 : w1.cell? ⟨k.d, 1, none⟩ = some (.map (some k.m)) := hk1.disk.at_ 1 rfl
  have e2 := (hkp1.bk b1 o1).at_ 0 rfl
  have e3 := (hkp1.bk b3 o3).at_ 0 rfl
  have e4 := (hkp1.bk b4 o4).at_ 0 rfl
  have hbf : Bk w1 f.blk 85 (fcells f) := (hg1.block _ (H.out.files f hf).lt (fun e => hneb (by injection e))).trans (H.out.files f hf)
  have hown1' : w1.drew.ownsMap Tryd.prog 9 ptrR k.m k.files.length (D.del (.string f.name)) := hown1
  obtain ⟨w2, hrun, r1, r2⟩ := hown1'.update lawS Tryd.underlying56 (by unfold maxLen; omega) (keyS to (by omega)) (ptrR_ptr f.blk)
  have HE := Lib.hid (ren_end H.out hf ht hk1 hkp1 hbf HRD.out (hown1.tidy lawS) r1 ⟨r2.os, r2.tape, r2.output, r2.size, r2.block⟩)
  clear r1 r2 hown1' hbf hk1 hkp1 hown1 hturn1 hg1 hown' c1 d1 d2 b1 b3 b4 HR
  go_wp2
  go_still_tail 6, (by kernel_rfl)
  change wpList _ _ _ _ _ w1.drew
  go_wp2
  refine bodyPost_end (results_none rfl _ _ _) rfl ?_
  exact ⟨rfl, HE.out⟩
end Go.Proofs.YtilimfbjkgeciaaDoor
