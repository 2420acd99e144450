/-
  crash of a file, Crash of a disk, of the code. Conditions: the disk lies in memory; lengths as written.
-/
import Derived.Test.YtilimfbjkgeciaaDoorVSize
import Derived.StillTailTactics
namespace Go.Proofs.YtilimfbjkgeciaaDoor
set_option maxRecDepth 100000
open Go.RowKit Go.Maps

theorem grown_set {w w1 : World} {b o : Nat} (u : Value) (h : w.grownBy w1 (some b)) : w.grownBy (w1.setCell ⟨b, o, none⟩ u) (some b) :=
  ⟨h.os, h.tape, h.output, by simpa [World.setCell] using h.size, fun i hi hne => (Below.heap_setCell w1 ⟨b, o, none⟩ u i (fun e => hne (by rw [e]))).trans (h.block i hi hne)⟩
theorem grown_re (w : World) (b : Option Nat) : w.grownBy w b := ⟨rfl, rfl, rfl, Nat.le_refl _, fun _ _ _ => rfl⟩
theorem grown_drew {w w1 : World} {b : Option Nat} (h : w.grownBy w1 b) : w.grownBy w1.drew b := ⟨h.os, h.tape, h.output, h.size, h.block⟩
theorem ext_take (l : List UInt8) (n : Nat) : (B l).extract 0 n = B (l.take n) := by
  apply ByteArray.ext
  simp [B]

set_option maxHeartbeats 2000000 in
theorem crash1_any (f : Fl) (keep : Int) (w : World) (hb : Bk w f.blk 85 (fcells f)) (hn : f.n ≤ f.s.length) (hl : f.s.length ≤ 1000000000000) :
    Calls Tryd.prog 46 #[ptr f.blk, .int .i64 keep] w fun e w' => e = .returned (.tuple #[]) ∧ Bk w' f.blk 85 (fcells (crF keep f)) ∧ w.grownBy w' (some f.blk) := by
  have c0 := hb.at_ 0 rfl
  have c1 := hb.at_ 1 rfl
  have f1 := hb.fr 1
  have f0 := hb.fr 0
  by_cases hk : 0 < keep
  · obtain ⟨q, rfl⟩ := Int.eq_ofNat_of_zero_le (show 0 ≤ keep by omega)
    have hq : stay (q : Int) f = f.n + q % (f.s.length - f.n + 1) := by unfold stay; rw [if_pos hk]; rfl
    obtain ⟨a, ha⟩ : ∃ a, a = f.s.length - f.n := ⟨_, rfl⟩
    obtain ⟨c, hc⟩ : ∃ c, c = a + 1 := ⟨_, rfl⟩
    obtain ⟨r, hr⟩ : ∃ r, r = q % c := ⟨_, rfl⟩
    have hlt : r < c := by rw [hr]; exact Nat.mod_lt _ (by omega)
    rw [← ha, ← hc, ← hr] at hq
    have w1 : IntKind.i64.wrap ((f.s.length : Int) - (f.n : Int)) = (a : Int) := by rw [IntKind.wrap_i64]; omega
    have w2 : IntKind.i64.wrap ((a : Int) + 1) = (c : Int) := by rw [IntKind.wrap_i64]; omega
    have hz : ¬ (c = 0) := by omega
    have w3 : Int.tmod (q : Int) (c : Int) = (r : Int) := by rw [hr]; rfl
    have w4 : (q : Int) % (c : Int) = (r : Int) := by rw [hr]; rfl
    have w5 : IntKind.i64.wrap ((f.n : Int) + (r : Int)) = (f.n : Int) + (r : Int) := by rw [IntKind.wrap_i64]; omega
    have hle : f.n + r ≤ f.s.length := by omega
    have HQ := Lib.hid hq
    clear hr hc ha hq
    go_enter Tryd.func46, Tryd.ntmps46
    go_wp2
    have b1 : (0 : Int) ≤ (f.n : Int) + (r : Int) := by omega
    have b2 : (f.n : Int) + (r : Int) ≤ (f.s.length : Int) := by omega
    have b3 : ((f.n : Int) + (r : Int)).toNat = f.n + r := by omega
    go_still_tail 20, (by kernel_rfl)
    go_wp2
    have hb2 : Bk (w.setCell ⟨f.blk, 1, none⟩ (.int .i64 ((f.n : Int) + (r : Int)))).drew f.blk 85 #[.string (B f.s), .int .i64 ((f.n : Int) + (r : Int))] := hb.set_ 1 _
    have hg2 : w.grownBy (w.setCell ⟨f.blk, 1, none⟩ (.int .i64 ((f.n : Int) + (r : Int)))).drew (some f.blk) := grown_drew (grown_set _ (grown_re _ _))
    generalize (w.setCell ⟨f.blk, 1, none⟩ (.int .i64 ((f.n : Int) + (r : Int)))).drew = w2 at hb2 hg2 ⊢
    clear c0 c1 f0 f1
    have c0 := hb2.at_ 0 rfl
    have c1 := hb2.at_ 1 rfl
    have f0 := hb2.fr 0
    go_still_tail 12, (by kernel_rfl)
    go_wp2
    refine bodyPost_end (results_none rfl _ _ _) rfl ?_
    refine ⟨rfl, ?_, grown_drew (grown_set _ hg2)⟩
    have e : crF (q : Int) f = { f with s := f.s.take (f.n + r), n := f.n + r } := by unfold crF; rw [HQ.out]
    rw [e]
    have h2 := hb2.set_ 0 (.string (B (f.s.take (f.n + r))))
    rw [ext_take]
    exact h2
  · have hq : stay keep f = f.n := by unfold stay; rw [if_neg hk]
    have HQ := Lib.hid hq
    have b1 : (0 : Int) ≤ (f.n : Int) := by omega
    have b2 : (f.n : Int) ≤ (f.s.length : Int) := by omega
    clear hq
    go_enter Tryd.func46, Tryd.ntmps46
    go_wp2
    go_still_tail 12, (by kernel_rfl)
    go_wp2
    refine bodyPost_end (results_none rfl _ _ _) rfl ?_
    refine ⟨rfl, ?_, grown_drew (grown_set _ (grown_re _ _))⟩
    have e : crF keep f = { f with s := f.s.take f.n, n := f.n } := by unfold crF; rw [HQ.out]
    rw [e]
    have h2 := hb.set_ 0 (.string (B (f.s.take f.n)))
    rw [ext_take]
    exact h2

/-- The file in a block has other bytes. -/
def setF (b : Nat) (s : List UInt8) (n : Nat) (L : List Fl) : List Fl := upd b (fun x => { x with s := s, n := n }) L
def setK (k : Dsk) (b : Nat) (s : List UInt8) (n : Nat) : Dsk := { k with files := setF b s n k.files }
theorem setF_name (b : Nat) (s : List UInt8) (n : Nat) (x : Fl) : (if x.blk = b then { x with s := s, n := n } else x : Fl).name = x.name := by split <;> rfl
theorem setF_blk (b : Nat) (s : List UInt8) (n : Nat) (x : Fl) : (if x.blk = b then { x with s := s, n := n } else x : Fl).blk = x.blk := by split <;> rfl
theorem mem_setF {L : List Fl} {b : Nat} {s : List UInt8} {n : Nat} {x : Fl} (h : x ∈ setF b s n L) : ∃ y ∈ L, x = if y.blk = b then { y with s := s, n := n } else y := by
  obtain ⟨y, hy, e⟩ := List.mem_map.1 h
  exact ⟨y, hy, e.symm⟩
theorem own_setK (k : Dsk) (b : Nat) (s : List UInt8) (n : Nat) : own (setK k b s n) = own k := by
  unfold own setK setF upd
  simp only
  rw [blks_map k.files _ (setF_blk b s n)]
theorem fnd_setF {L : List Fl} {f : Fl} (s : List UInt8) (n : Nat) (t : List UInt8) : fnd (setF f.blk s n L) t = (fnd L t).map fun x => if x.blk = f.blk then { x with s := s, n := n } else x := fnd_map L _ (setF_name f.blk s n) t
theorem Dk.setF {w w2 : World} {k : Dsk} {f : Fl} {s : List UInt8} {n : Nat} (h : Dk w k) (hf : f ∈ k.files) (hb : Bk w2 f.blk 85 #[.string (B s), .int .i64 (n : Int)]) (hs : n ≤ s.length) (hr : total k.files + s.length ≤ k.cap + f.s.length) (hg : w.grownBy w2 (some f.blk)) :
    Dk w2 (setK k f.blk s n) ∧ Kept k (setK k f.blk s n) w w2 := by
  have hfb := h.files f hf
  have keep : ∀ i, i < w.heap.size → i ≠ f.blk → w2.heap[i]? = w.heap[i]? := fun i hi hne => hg.block i hi (fun e => hne (by injection e))
  refine ⟨⟨(keep _ h.disk.lt (h.ne_f hf).symm).trans h.disk, ?_, fun x hx => ?_, h.gate.kept fun i hi hlt => keep i hlt ?_, ⟨?_, ?_, fun x hx => ?_, fun x hx => ?_, ?_, ?_, h.ok.capb⟩⟩, ⟨hg.os, hg.tape, hg.output, hg.size, fun i hi hn => keep i hi (fun e => hn ?_), fun i hi => .inl (by rwa [own_setK] at hi)⟩⟩
  · obtain ⟨D, h1, h2⟩ := h.map
    have hlt := h1.lt
    obtain ⟨es, c, h3, h4, h5, h6⟩ := h1
    have hne : k.m ≠ f.blk := fun e => by
      unfold Bk at hfb
      rw [e, hfb] at h3
      cases h3
    refine ⟨D, ⟨es, c, (keep _ hlt hne).trans h3, h4, ?_, h6⟩, h2.map _ (setF_name _ _ _) (setF_blk _ _ _)⟩
    show es.size ≤ (k.files.map _).length
    rw [List.length_map]
    exact h5
  · obtain ⟨y, hy, rfl⟩ := mem_setF hx
    by_cases e : y.blk = f.blk
    · rw [if_pos e]
      obtain rfl := blk_eq h.ok.blks hy hf e
      exact hb
    · rw [if_neg e]
      exact (keep _ (h.files y hy).lt e).trans (h.files y hy)
  · intro e
    have hgt := h.gate
    cases hz : k.fuse with
    | none => rw [hz] at hi; cases hi
    | some z =>
      rw [hz] at hi hgt
      obtain ⟨_, _, b2, b3, _, b5⟩ := hgt
      simp only [gateB, List.mem_cons, List.not_mem_nil, or_false] at hi
      rcases hi with rfl | rfl | rfl
      · exact Bk.ne b2 hfb (by decide) e
      · exact Bk.ne b3 hfb (by decide) e
      · exact Bk.ne b5 hfb (by decide) e
  · show ((k.files.map _).map _).Nodup
    rw [names_map _ _ (setF_name _ _ _)]
    exact h.ok.names
  · show ((k.files.map _).map _).Nodup
    rw [blks_map _ _ (setF_blk _ _ _)]
    exact h.ok.blks
  · obtain ⟨y, hy, rfl⟩ := mem_setF hx
    split
    · exact hs
    · exact h.ok.syn y hy
  · obtain ⟨y, hy, rfl⟩ := mem_setF hx
    rw [setF_name]
    exact h.ok.nm y hy
  · have := upd_one h.ok.blks hf (fun x => { x with s := s, n := n })
    show total (upd f.blk _ k.files) ≤ k.cap
    simp only at this
    omega
  · show (k.files.map _).length ≤ 200
    rw [List.length_map]
    exact h.ok.many
  · rw [e]
    simp only [own, List.mem_cons, List.mem_append]
    exact .inr (.inr (.inr (List.mem_map.2 ⟨f, hf, rfl⟩)))

/-- While a disk crashes: files that are still to come are as they were. -/
def mid (keep : Int) (left : Lit → Bool) (L : List Fl) : List Fl := L.map fun f => if left (.string f.name) then f else crF keep f
def midK (keep : Int) (left : Lit → Bool) (k : Dsk) : Dsk := { k with up := false, files := mid keep left k.files }
def crashK (keep : Int) (k : Dsk) : Dsk := { k with up := false, files := k.files.map (crF keep) }
theorem mid_end (keep : Int) (left : Lit → Bool) (k : Dsk) (h : ∀ kl, left kl = false) : midK keep left k = crashK keep k := by
  unfold midK crashK mid
  congr 1
  apply List.map_congr_left
  intro f _
  rw [h]
  rfl
theorem mid_start (keep : Int) {D : DataW Unit} (k : Dsk) (hR : Rep D k.files) (hn : (k.files.map (·.name)).Nodup) : midK keep (Maps.has D) k = { k with up := false } := by
  unfold midK mid
  congr 1
  conv => rhs; rw [← List.map_id k.files]
  apply List.map_congr_left
  intro f hf
  rw [hR.has, fnd_of_mem hn hf]
  rfl
theorem mid_mem {keep : Int} {left : Lit → Bool} {L : List Fl} {f : Fl} (hf : f ∈ L) (hl : left (.string f.name) = true) : f ∈ mid keep left L := List.mem_map.2 ⟨f, hf, by rw [hl]; rfl⟩
theorem mid_step {keep : Int} {left : Lit → Bool} {k : Dsk} (hb : (k.files.map (·.blk)).Nodup) (hn : (k.files.map (·.name)).Nodup) {f : Fl} (hf : f ∈ k.files) :
    setK (midK keep left k) f.blk (crF keep f).s (crF keep f).n = midK keep (fun z => left z && !z.sameKey (.string f.name)) k := by
  unfold setK midK setF upd mid
  simp only
  congr 1
  rw [List.map_map]
  apply List.map_congr_left
  intro g hg
  simp only [Function.comp]
  have hbk : (if left (.string g.name) = true then g else crF keep g : Fl).blk = g.blk := by split <;> rfl
  rw [hbk]
  by_cases e : g.blk = f.blk
  · obtain rfl := blk_eq hb hg hf e
    have hk : (Lit.string g.name).sameKey (.string g.name) = true := WideAt.sameKey_self (isKey _)
    have hc : (left (.string g.name) && !(Lit.string g.name).sameKey (.string g.name)) = false := by rw [hk]; simp
    rw [if_pos rfl]
    show _ = (if (left (.string g.name) && !(Lit.string g.name).sameKey (.string g.name)) = true then g else crF keep g)
    rw [hc]
    cases left (.string g.name) <;> rfl
  · have hk : (Lit.string g.name).sameKey (.string f.name) = false := sameKey_ne (key_ne fun e2 => e (by rw [name_eq hn hg hf e2]))
    rw [if_neg e]
    show _ = (if (left (.string g.name) && !(Lit.string g.name).sameKey (.string f.name)) = true then g else crF keep g)
    rw [hk, Bool.not_false, Bool.and_true]

theorem Dk.off {w : World} {k : Dsk} (h : Dk w k) : Dk (w.setCell ⟨k.d, 2, none⟩ (.bool false)) { k with up := false } ∧ Kept k { k with up := false } w (w.setCell ⟨k.d, 2, none⟩ (.bool false)) := by
  have hd : ∀ i, i ≠ k.d → (w.setCell ⟨k.d, 2, none⟩ (.bool false)).heap[i]? = w.heap[i]? := fun i hi => Below.heap_setCell _ _ _ i hi
  refine ⟨⟨h.disk.set_ 2 _, ?_, fun f hf => (hd _ (h.ne_f hf)).trans (h.files f hf), h.gate.kept fun i hi _ => hd i ?_, ⟨h.ok.1, h.ok.2, h.ok.3, h.ok.4, h.ok.5, h.ok.6, h.ok.7⟩⟩, ⟨rfl, rfl, rfl, by simp [World.setCell], fun i _ hn => hd i (fun e => hn (by simp [own, e])), fun i hi => .inl hi⟩⟩
  · obtain ⟨D, ⟨es, c, h3, h4⟩, h5⟩ := h.map
    exact ⟨D, ⟨es, c, (hd _ h.ne_m).trans h3, h4⟩, h5⟩
  · intro e
    have hgt := h.gate
    have hd := h.disk
    cases hz : k.fuse with
    | none => rw [hz] at hi; cases hi
    | some z =>
      rw [hz] at hi hgt
      obtain ⟨_, _, b2, b3, _, b5⟩ := hgt
      simp only [gateB, List.mem_cons, List.not_mem_nil, or_false] at hi
      rcases hi with rfl | rfl | rfl
      · exact Bk.ne b2 hd (by decide) e
      · exact Bk.ne b3 hd (by decide) e
      · exact Bk.ne b5 hd (by decide) e

set_option maxHeartbeats 2000000 in
theorem crash_any (k : Dsk) (keep : Int) (w : World) (h : Dk w k) :
    Calls Tryd.prog 19 #[ptr k.d, .int .i64 keep] w fun e w' => e = .returned (.tuple #[]) ∧ Dk w' (crashK keep k) ∧ Kept k (crashK keep k) w w' := by
  have f2 := h.disk.fr 2
  have c2 := h.disk.at_ 2 rfl
  have c1 := h.disk.at_ 1 rfl
  obtain ⟨hk1, hkp1⟩ := h.off
  obtain ⟨D, hown, hR⟩ := hk1.map
  have HS := Lib.hid (mid_start keep k hR h.ok.names)
  have HE := Lib.hid (mid_end keep · k)
  have HM := Lib.hid fun (left : Lit → Bool) (f : Fl) (hf : f ∈ k.files) => mid_step (keep := keep) (left := left) h.ok.blks h.ok.names hf
  have HO := Lib.hid h.ok
  have hsz : (w.setCell ⟨k.d, 2, none⟩ (.bool false)).heap.size = w.heap.size := by simp [World.setCell]
  have HLT := Lib.hid hk1.lt
  clear h
  go_enter Tryd.func19, Tryd.ntmps19
  go_wp2_with (first | (at_range; refine wpList_range_own _ rfl _ 56 rfl 9 81 lawS Tryd.underlying56 _ k.m k.files.length D rfl hown ?_; intro w0 hrg0 hg0 hs0) | fail)
  try go_frame
  rw [hsz] at hrg0
  generalize w.setCell ⟨k.d, 2, none⟩ (.bool false) = wa at *
  have HSZ := Lib.hid hsz
  clear hsz
  have ho0 : Old wa w0 := (Below.refl _ _).grown hg0 (Nat.le_refl _) (fun j hj => by cases hj)
  go_loopw [5] (fun _ wr => ∃ left cnt, wr.ranges Tryd.prog 9 ptrR k.m w.heap.size k.files.length D left cnt ∧ Dk wr (midK keep left k) ∧ Kept k (midK keep left k) w wr) (fun _ wr => wr.rangeLeft k.m w.heap.size)
  case atStart => exact ⟨_, _, hrg0, by rw [HS.out]; exact hk1.old ho0, by rw [HS.out]; exact hkp1.old ho0⟩
  case round =>
    clear hrg0 hg0 hs0 ho0
    obtain ⟨left, cnt, hrg, hkr, hkpr⟩ := hrel
    go_wp2_with (first | (at_next; refine wp_next_file rfl _ rfl k.files D hR k.m w.heap.size k.files.length left cnt rfl hrg ?_ ?_) | fail)
    · intro hl
      rw [HE.out left hl] at hkr hkpr
      go_wp2
      refine bodyPost_end (results_none rfl _ _ _) rfl ?_
      exact ⟨rfl, hkr, hkpr⟩
    · intro f w1 cnt1 hf hl hrg1 hlt hg1 hen
      have hnr : w.heap.size ∉ own (midK keep left k) := fun hx => by
        have h1 : w.heap.size ∈ own ({ k with up := false } : Dsk) := by
          unfold own midK mid at hx
          simp only at hx
          rw [blks_map k.files _ (fun f => by split <;> rfl)] at hx
          exact hx
        have := HLT.out _ h1
        rw [HSZ.out] at this
        omega
      have hk1' : Dk w1 (midK keep left k) := hkr.same fun i hi hlt => hg1.block i hlt (fun e => hnr (by injection e with e; exact e ▸ hi))
      have hkp1' : Kept k (midK keep left k) w w1 := by
        refine ⟨hg1.os.trans hkpr.os, hg1.tape.trans hkpr.tape, hg1.output.trans hkpr.output, Nat.le_trans hkpr.size hg1.size, fun i hi hn => ?_, hkpr.own⟩
        rw [hg1.block i (Nat.lt_of_lt_of_le hi hkpr.size) (fun e => by injection e with e; omega), hkpr.block i hi hn]
      have hm := mid_mem (keep := keep) hf hl
      have hcr := crash1_any f keep w1 (hk1'.files f hm) (HO.out.syn f hf) (by have := len_le_total hf; have := HO.out.room; have := HO.out.capb; omega)
      have HC := Lib.hid hcr
      have HL := Lib.hid (show w1.rangeLeft k.m w.heap.size < wr.rangeLeft k.m w.heap.size by rw [hrg1.left_eq, hrg.left_eq]; exact hlt)
      have HN := Lib.hid (HM.out left f hf)
      have hfo : f.blk ∈ own (midK keep left k) := by
        simp only [own, midK, List.mem_cons, List.mem_append]
        exact .inr (.inr (.inr (List.mem_map.2 ⟨f, hm, rfl⟩)))
      clear hcr hg1 hlt hkr hkpr
      go_wp2_with fail
      refine HC.out.mono ?_
      rintro e w2 ⟨rfl, hb2, hg2⟩
      obtain ⟨hk2, hkp2⟩ := hk1'.setF hm hb2 (by rw [crF_len (HO.out.syn f hf)]; exact Nat.le_refl _) (by
        rw [crF_len (HO.out.syn f hf)]
        have := hk1'.ok.room
        have := (stay_le (keep := keep) (HO.out.syn f hf)).2
        show total (midK keep left k).files + stay keep f ≤ (midK keep left k).cap + f.s.length
        omega) hg2
      rw [HN.out] at hk2 hkp2
      have hrg2 := hrg1.kept hg2 (fun e => by
        injection e with e
        have hb := hk1'.files f hm
        obtain ⟨D', ⟨es, c, h3, _⟩, _⟩ := hk1'.map
        unfold Bk at hb
        rw [← e] at hb
        have h3' : w1.heap[k.m]? = some (.map es c) := h3
        rw [hb] at h3'
        cases h3') (fun e => by injection e with e; exact hnr (e ▸ hfo))
      have HL2 := Lib.hid (show w2.rangeLeft k.m w.heap.size < wr.rangeLeft k.m w.heap.size by rw [hrg2.left_eq, ← hrg1.left_eq]; exact HL.out)
      go_wp2
      go_roundw
      case rel => exact ⟨_, _, hrg2, hk2, hkp1'.tr hkp2⟩
      case measure => exact HL2.out
end Go.Proofs.YtilimfbjkgeciaaDoor
