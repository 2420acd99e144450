/-
  write, the row of Append, change, Append, Reset, Many, Off of a log. Conditions: the disk and the log lie in memory; the table is laid; lengths as written.
-/
import Derived.Test.YtilimfbjkgeciaaDoorWStp
import Derived.Test.YtilimfbjkgeciaaDoorWPut
namespace Go.Proofs.YtilimfbjkgeciaaDoor
set_option maxRecDepth 100000
open Go.RowKit Go.Maps

theorem post_from {k : Dsk} {w w1 w' : World} {r : Pd × Int} {e : Ending} (o : Old w w1) (h : Post k w1 r e w') : Post k w r e w' := by
  obtain ⟨e1, k', h1, h2, h3, h4⟩ := h
  exact ⟨e1, k', h1, h2, h3, (Kept.of_old o).tr h4⟩

def wfs (g1 g2 g3 : Nat) : List (Nat × Array Value) :=
  [(52, #[ptr g1, ptr g2]), (54, #[ptr g1, ptr g2]), (56, #[ptr g1, ptr g2, ptr g3]), (57, #[ptr g1, ptr g2]), (58, #[ptr g1, ptr g2])]
theorem wrow_any (k : Dsk) (lb many : Nat) (x s : List UInt8) (off : Bool) (hx : x.length ≤ 1000) (hs : s.length ≤ 1000000000000) (w : World) (h : Dk w k) (hl : Lg w lb k.d x many off) (g1 g2 g3 sb : Nat)
    (b1 : Bk w g1 30 #[ptr lb]) (b2 : Bk w g2 9 #[.string (B (side x))]) (b3 : Bk w g3 9 #[.string (B s)]) (hb : Bk w sb 76 ((wfs g1 g2 g3).map fv).toArray) :
    Calls Tryd.prog 38 #[.slice (some ⟨sb, 0, none⟩) 5 5] w (Post k w (pwrite x s (ab k))) := by
  have n1 := h.other b1 (by decide) (by decide) (by decide) (by decide)
  have n2 := h.other b2 (by decide) (by decide) (by decide) (by decide)
  have n3 := h.other b3 (by decide) (by decide) (by decide) (by decide)
  have nl := h.other hl (by decide) (by decide) (by decide) (by decide)
  have hy : (side x).length ≤ 100000 := by unfold side; simp; omega
  refine row_any (wsteps x s) (wfs g1 g2 g3) rfl (by simp [wfs]) k w h sb hb ?_ ?_
  · intro f hf
    simp only [wfs, List.mem_cons, List.not_mem_nil, or_false] at hf
    rcases hf with rfl | rfl | rfl | rfl | rfl
    · exact enters_of Tryd.func52 (by kernel_rfl) rfl
    · exact enters_of Tryd.func54 (by kernel_rfl) rfl
    · exact enters_of Tryd.func56 (by kernel_rfl) rfl
    · exact enters_of Tryd.func57 (by kernel_rfl) rfl
    · exact enters_of Tryd.func58 (by kernel_rfl) rfl
  · intro j o f ho hf k' w' hd hk hkp
    have c1 := hkp.bk b1 n1
    have c2 := hkp.bk b2 n2
    have c3 := hkp.bk b3 n3
    have cl : Lg w' lb k'.d x many off := by rw [hd]; exact hkp.bk hl nl
    rcases j with _ | _ | _ | _ | _ | j <;> simp only [wsteps, wfs, List.getElem?_cons_zero, List.getElem?_cons_succ, Option.some.injEq, List.getElem?_nil, reduceCtorEq] at ho hf
    · subst ho hf
      exact wr1_any k' lb many x off g1 g2 (side x) hy w' hk cl c1 c2
    · subst ho hf
      exact wr2_any k' lb many x off g1 g2 (side x) hy w' hk cl c1 c2
    · subst ho hf
      exact wr3_any k' lb many x off g1 g2 g3 (side x) s hy hs w' hk cl c1 c2 c3
    · subst ho hf
      exact wr4_any k' lb many x off g1 g2 (side x) hy w' hk cl c1 c2
    · subst ho hf
      exact wr5_any k' lb many x off (by omega) g1 g2 (side x) hy w' hk cl c1 c2
/-- The closures of write, as cells. -/
abbrev wcs (g1 g2 g3 : Nat) : Array Value :=
  #[.func (.func 52) #[] #[ptr g1, ptr g2], .func (.func 54) #[] #[ptr g1, ptr g2], .func (.func 56) #[] #[ptr g1, ptr g2, ptr g3], .func (.func 57) #[] #[ptr g1, ptr g2], .func (.func 58) #[] #[ptr g1, ptr g2]]
abbrev wW (w : World) (lb : Nat) (x s : List UInt8) : World :=
  (((w.alloc (.cells #[ptr lb] 30)).alloc (.cells #[.string (B s)] 9)).alloc (.cells #[.string (B (side x))] 9)).alloc (.cells (wcs w.heap.size (w.heap.size + 1 + 1) (w.heap.size + 1)) 76)
theorem wW_any (k : Dsk) (lb many : Nat) (x s : List UInt8) (off : Bool) (hx : x.length ≤ 1000) (hs : s.length ≤ 1000000000000) (w : World) (h : Dk w k) (hl : Lg w lb k.d x many off) :
    Calls Tryd.prog 38 #[.slice (some ⟨w.heap.size + 1 + 1 + 1, 0, none⟩) 5 5] (wW w lb x s) (Post k w (pwrite x s (ab k))) := by
  have o := (((old_alloc w (.cells #[ptr lb] 30)).al (.cells #[.string (B s)] 9)).al (.cells #[.string (B (side x))] 9)).al (.cells (wcs w.heap.size (w.heap.size + 1 + 1) (w.heap.size + 1)) 76)
  refine (wrow_any k lb many x s off hx hs (wW w lb x s) (h.old o) (hl.old o) w.heap.size (w.heap.size + 1 + 1) (w.heap.size + 1) _ ?_ ?_ ?_ ?_).mono fun _ _ hp => post_from o hp
  · exact (((new_bk w _ _).old (old_alloc _ _)).old (old_alloc _ _)).old (old_alloc _ _)
  · exact (new_bk' _ _ _ _ (by simp)).old (old_alloc _ _)
  · exact ((new_bk' _ _ _ _ (by simp)).old (old_alloc _ _)).old (old_alloc _ _)
  · exact new_bk' _ _ _ _ (by simp)
set_option maxHeartbeats 2000000 in
theorem write_any (k : Dsk) (lb many : Nat) (x s : List UInt8) (off : Bool) (hx : x.length ≤ 1000) (hs : s.length ≤ 1000000000000) (w : World) (h : Dk w k) (hl : Lg w lb k.d x many off) :
    Calls Tryd.prog 31 #[ptr lb, .string (B s)] w (Post k w (pwrite x s (ab k))) := by
  have H := Lib.hid (wW_any k lb many x s off hx hs w h hl)
  have hl1 := hl.at_ 1 rfl
  have hlt := hl.lt
  have hadd : B x ++ ⟨#[43]⟩ = B (side x) := add_B x [43]
  have hmf := makeF
  have i7 : ¬ 9223372036854775807 < x.length + 1 := by omega
  clear h hl
  go_enter Tryd.func31, Tryd.ntmps31
  go_wp2_with fail
  refine H.out.mono ?_
  rintro e w1 hp
  obtain ⟨rfl, hp2⟩ := hp
  go_wp2
  go_ret
  exact ⟨rfl, hp2⟩

/-- The row of Append. -/
def afs (g1 g3 : Nat) : List (Nat × Array Value) := [(39, #[ptr g1, ptr g3]), (41, #[ptr g1])]
theorem arow_any (k : Dsk) (lb many : Nat) (x s : List UInt8) (off : Bool) (hx : x.length ≤ 1000) (hs : s.length ≤ 1000000000000) (w : World) (h : Dk w k) (hl : Lg w lb k.d x many off) (g1 g3 sb : Nat)
    (b1 : Bk w g1 30 #[ptr lb]) (b3 : Bk w g3 9 #[.string (B s)]) (hb : Bk w sb 76 ((afs g1 g3).map fv).toArray) :
    Calls Tryd.prog 38 #[.slice (some ⟨sb, 0, none⟩) 2 2] w (Post k w (play x s (ab k))) := by
  have n1 := h.other b1 (by decide) (by decide) (by decide) (by decide)
  have n3 := h.other b3 (by decide) (by decide) (by decide) (by decide)
  have nl := h.other hl (by decide) (by decide) (by decide) (by decide)
  refine row_any (asteps x s) (afs g1 g3) rfl (by simp [afs]) k w h sb hb ?_ ?_
  · intro f hf
    simp only [afs, List.mem_cons, List.not_mem_nil, or_false] at hf
    rcases hf with rfl | rfl
    · exact enters_of Tryd.func39 (by kernel_rfl) rfl
    · exact enters_of Tryd.func41 (by kernel_rfl) rfl
  · intro j o f ho hf k' w' hd hk hkp
    have c1 := hkp.bk b1 n1
    have c3 := hkp.bk b3 n3
    have cl : Lg w' lb k'.d x many off := by rw [hd]; exact hkp.bk hl nl
    rcases j with _ | _ | j <;> simp only [asteps, afs, List.getElem?_cons_zero, List.getElem?_cons_succ, Option.some.injEq, List.getElem?_nil, reduceCtorEq] at ho hf
    · subst ho hf
      exact ap1_any k' lb many x off (by omega) g1 g3 s hs w' hk cl c1 c3
    · subst ho hf
      exact ap2_any k' lb many x off (by omega) g1 w' hk cl c1
abbrev aW (w : World) (gl : Nat) (s : List UInt8) : World :=
  (w.alloc (.cells #[.string (B s)] 9)).alloc (.cells #[.func (.func 39) #[] #[ptr gl, ptr w.heap.size], .func (.func 41) #[] #[ptr gl]] 76)
theorem aW_any (k : Dsk) (lb many : Nat) (x s : List UInt8) (off : Bool) (hx : x.length ≤ 1000) (hs : s.length ≤ 1000000000000) (w : World) (h : Dk w k) (hl : Lg w lb k.d x many off) (gl : Nat) (b1 : Bk w gl 30 #[ptr lb]) :
    Calls Tryd.prog 38 #[.slice (some ⟨w.heap.size + 1, 0, none⟩) 2 2] (aW w gl s) (Post k w (play x s (ab k))) := by
  have o := (old_alloc w (.cells #[.string (B s)] 9)).al (.cells #[.func (.func 39) #[] #[ptr gl, ptr w.heap.size], .func (.func 41) #[] #[ptr gl]] 76)
  refine (arow_any k lb many x s off hx hs (aW w gl s) (h.old o) (hl.old o) gl w.heap.size _ (b1.old o) ?_ ?_).mono fun _ _ hp => post_from o hp
  · exact (new_bk w _ _).old (old_alloc _ _)
  · exact new_bk' _ _ _ _ (by simp)
set_option maxHeartbeats 2000000 in
theorem lay_any (k : Dsk) (lb many : Nat) (x s : List UInt8) (off : Bool) (hx : x.length ≤ 1000) (hs : s.length ≤ 1000000000000) (w : World) (h : Dk w k) (hl : Lg w lb k.d x many off) (gl : Nat) (b1 : Bk w gl 30 #[ptr lb]) :
    Calls Tryd.prog 37 #[.string (B s), ptr gl] w (Post k w (play x s (ab k))) := by
  have H := Lib.hid (aW_any k lb many x s off hx hs w h hl gl b1)
  have hmf := makeF
  clear h hl b1
  go_enter Tryd.func37, Tryd.ntmps37
  go_wp2_with fail
  refine H.out.mono ?_
  rintro e w1 hp
  obtain ⟨rfl, hp2⟩ := hp
  go_wp2
  go_ret
  exact ⟨rfl, hp2⟩
end Go.Proofs.YtilimfbjkgeciaaDoor
