/-
  CellTells: whatever two cells and whatever list of cells come in, the law answers true, and leaves all as it was. No conditions.
-/
import Derived.Test.YthdpiagnjakjiaaLift
import Derived.Test.YthdpiagnjakjiaaRise
namespace Go.Proofs.Ythdpiagnjakjiaa
open Go.ChangeShapes Go.WideShapes Go.ChangeAt Go.RowKit Go.Joins Go.Deep

section
variable {H : Type} {enc : TypeId × Value → H} {w : World} {base : Nat} {spare : Nat → Bool} {held : Bool}
theorem trod_cel {fuel : Nat} {cs : List Value} {y : DataW H × List MemPlace} (hf : DataW.trod enc Try.prog w base spare held fuel 24 cs = some y) : ∃ c : Cel, cs = (cells c).toList := by
  obtain ⟨xs, n, _, hx, hsz, hlen, hg⟩ := DataW.trod_struct Try.underlying24 hf
  match cs, hsz.trans Try.cells24 with
  | [c0, c1, c2, c3, c4, c5], _ =>
    match xs, hlen with
    | [y0, y1, y2, y3, y4, y5], _ =>
      have k9 : Try.prog.cellsOf 9 = 1 := by kernel_rfl
      have k22 : Try.prog.cellsOf 22 = 1 := by kernel_rfl
      have k4 : Try.prog.cellsOf 4 = 1 := by kernel_rfl
      have g0 : DataW.trod enc Try.prog w base spare held n 9 ([c0, c1, c2, c3, c4, c5].take (Try.prog.cellsOf 9)) = some y0 := hg 0 _ rfl
      have g1 : DataW.trod enc Try.prog w base spare held n 9 ([c1, c2, c3, c4, c5].take (Try.prog.cellsOf 9)) = some y1 := hg 1 _ rfl
      have g2 : DataW.trod enc Try.prog w base spare held n 22 ([c2, c3, c4, c5].take (Try.prog.cellsOf 22)) = some y2 := hg 2 _ rfl
      have g3 : DataW.trod enc Try.prog w base spare held n 22 ([c3, c4, c5].take (Try.prog.cellsOf 22)) = some y3 := hg 3 _ rfl
      have g4 : DataW.trod enc Try.prog w base spare held n 4 ([c4, c5].take (Try.prog.cellsOf 4)) = some y4 := hg 4 _ rfl
      have g5 : DataW.trod enc Try.prog w base spare held n 9 ([c5].take (Try.prog.cellsOf 9)) = some y5 := hg 5 _ rfl
      rw [k9] at g0 g1 g5
      rw [k22] at g2 g3
      rw [k4] at g4
      obtain ⟨s0, e0, -, z0⟩ := DataW.trod_string Try.underlying9 g0
      obtain ⟨s1, e1, -, z1⟩ := DataW.trod_string Try.underlying9 g1
      obtain ⟨n2, e2, -, z2⟩ := DataW.trod_int Try.underlying22 g2
      obtain ⟨n3, e3, -, z3⟩ := DataW.trod_int Try.underlying22 g3
      obtain ⟨b4, e4, -⟩ := DataW.trod_bool Try.underlying4 g4
      obtain ⟨s5, e5, -, z5⟩ := DataW.trod_string Try.underlying9 g5
      simp only [List.take_succ_cons, List.take_zero, List.cons.injEq, and_true] at e0 e1 e2 e3 e4 e5
      subst e0 e1 e2 e3 e4 e5
      obtain ⟨p2, q2⟩ := u64_of_wf z2
      obtain ⟨p3, q3⟩ := u64_of_wf z3
      obtain ⟨m2, rfl⟩ := Int.eq_ofNat_of_zero_le p2
      obtain ⟨m3, rfl⟩ := Int.eq_ofNat_of_zero_le p3
      exact ⟨⟨s0.data.toList, s1.data.toList, m2, m3, b4, s5.data.toList⟩, rfl⟩

theorem open_cels {r : Reach} {b0 : Nat} {v : Value} {d : DataW H} {p : List MemPlace} (hv : Value.okWide Try.prog w r b0 25 v) (h : DataW.Trod enc Try.prog w base spare held 25 v d p) (_ : ∀ x ∈ p, x.block < w.heap.size) :
    ∃ l : List Cel, Cels w v l ∧ ∃ A cap, v = .slice A l.length cap := by
  obtain ⟨A, len, cap, rfl⟩ := okWide_slice Try.underlying25 hv
  obtain ⟨fuel, hf⟩ := h
  rcases open_slice Try.underlying25 (by simpa [Value.cells] using hf) with ⟨h0, -⟩ | ⟨a, len', cap', m, n, D, Pl, hcs, hb, hl, hm, hmm, hx, hi⟩
  · simp only [List.cons.injEq, Value.slice.injEq, and_true] at h0
    obtain ⟨rfl, rfl, rfl⟩ := h0
    exact ⟨[], .inl ⟨rfl, none, 0, rfl⟩, none, 0, rfl⟩
  · simp only [List.cons.injEq, Value.slice.injEq, and_true] at hcs
    obtain ⟨rfl, rfl, rfl⟩ := hcs
    have hml : len ≤ m := by rw [hmm]; split <;> omega
    rw [Try.cells24] at hi
    have hc : ∀ i, i < len → ∃ c : Cel, ∀ j, j < 6 → w.cell? ((a.add (i * 6)).add j) = (cells c)[j]? := by
      intro i hil
      obtain ⟨cs', h1, h2⟩ := hi i (by omega)
      obtain ⟨c, rfl⟩ := trod_cel h2
      obtain ⟨_, _, hat⟩ := World.cells?_some h1
      exact ⟨c, fun j hj => by rw [hat j hj]; simp⟩
    rcases Nat.eq_zero_or_pos len with h0 | h0
    · subst h0
      exact ⟨[], .inl ⟨rfl, some a, cap, rfl⟩, some a, cap, rfl⟩
    · obtain ⟨b, off, spot⟩ := a
      have hspot : spot = none := by
        obtain ⟨c, h1⟩ := hc 0 h0
        have h2 := h1 0 (by omega)
        have h3 : w.cell? ⟨b, off, spot⟩ = some (.string (B c.row)) := by simpa [Addr.add] using h2
        simpa using World.cell?_spot h3
      subst hspot
      classical
      refine ⟨(List.range len).map fun i => if hlt : i < len then Classical.choose (hc i hlt) else ⟨[], [], 0, 0, false, []⟩, .inr ⟨b, off, cap, by simp, ?_⟩, some ⟨b, off, none⟩, cap, by simp⟩
      intro i c hic
      rw [List.getElem?_map] at hic
      rcases Nat.lt_or_ge i len with hlt | hge
      · rw [List.getElem?_range hlt] at hic
        simp only [Option.map_some, dif_pos hlt, Option.some.injEq] at hic
        have hs := Classical.choose_spec (hc i hlt)
        rw [hic] at hs
        have hj : ∀ j, j < 6 → w.cell? ⟨b, off + i * 6 + j, none⟩ = (cells c)[j]? := fun j hj => by
          have := hs j hj
          rwa [Addr.add_lit, Addr.add_lit] at this
        exact ⟨hj 0 (by omega), hj 1 (by omega), hj 2 (by omega), hj 3 (by omega), hj 4 (by omega), hj 5 (by omega)⟩
      · rw [List.getElem?_eq_none (by simpa using hge)] at hic
        cases hic
end

/-- Two cells that were boxed, one behind the other. -/
structure F2 (w W : World) (a b : Cel) : Prop where
  ba : Bk W w.heap.size 24 (cells a)
  bb : Bk W (w.heap.size + 1) 24 (cells b)
  od : Old w W
theorem F2.old {w W W' : World} {a b : Cel} (h : F2 w W a b) (k : Old W W') : F2 w W' a b := ⟨h.ba.old k, h.bb.old k, h.od.tr k⟩
theorem F2.new (w : World) (a b : Cel) : F2 w ((w.alloc (.cells (cells a) 24)).alloc (.cells (cells b) 24)) a b :=
  ⟨(new_bk w _ _).alloc _, new_bk1 w _ _ _, ((Old.re _).al _).al _⟩
theorem tells_held {w W : World} {a b : Cel} {v : Value} {l : List Cel} (h : F2 w W a b ∧ Cels W v l) : (F2 w W a b ∧ Cels W v l) ∧ W.cell? ⟨w.heap.size, 0, none⟩ = some (.string (B a.row)) ∧ W.cell? ⟨w.heap.size, 1, none⟩ = some (.string (B a.col)) ∧ W.cell? ⟨w.heap.size, 2, none⟩ = some (.int .u64 a.ts) ∧ W.cell? ⟨w.heap.size, 3, none⟩ = some (.int .u64 a.seq) ∧ W.cell? ⟨w.heap.size, 4, none⟩ = some (.bool a.del) ∧ W.cell? ⟨w.heap.size, 5, none⟩ = some (.string (B a.val)) ∧ W.cell? ⟨w.heap.size + 1, 0, none⟩ = some (.string (B b.row)) ∧ W.cell? ⟨w.heap.size + 1, 1, none⟩ = some (.string (B b.col)) ∧ W.cell? ⟨w.heap.size + 1, 2, none⟩ = some (.int .u64 b.ts) ∧ W.cell? ⟨w.heap.size + 1, 3, none⟩ = some (.int .u64 b.seq) ∧ W.cell? ⟨w.heap.size + 1, 4, none⟩ = some (.bool b.del) ∧ W.cell? ⟨w.heap.size + 1, 5, none⟩ = some (.string (B b.val)) := by
  obtain ⟨a0, a1, a2, a3, a4, a5⟩ := h.1.ba.six
  obtain ⟨b0, b1, b2, b3, b4, b5⟩ := h.1.bb.six
  exact ⟨h, a0, a1, a2, a3, a4, a5, b0, b1, b2, b3, b4, b5⟩
theorem tells_old {w W W' : World} {a b : Cel} {v : Value} {l : List Cel} (h : F2 w W a b ∧ Cels W v l) (k : Old W W') : F2 w W' a b ∧ Cels W' v l := ⟨h.1.old k, h.2.old k⟩

set_option maxRecDepth 100000 in
set_option maxHeartbeats 8000000 in
theorem law_tells (a b : Cel) (A : Option Addr) (cap : Nat) (l : List Cel) (w : World) (hc : Cels w (.slice A l.length cap) l) :
    Calls Try.prog 3 #[cv a, cv b, .slice A l.length cap] w fun e w' => e = .returned (.bool true) ∧ Old w w' := by
  have f0 := F2.new w a b
  by_cases hl : l.length ≤ 100
  case neg =>
    have hI : decide ((100 : Int) < l.length) = true := by simp; omega
    go_enter Try.func3, Try.ntmps3
    go_wp2_with fail
    refine (shown_any _).mono ?_
    rintro r w2 ⟨rfl, h2⟩
    go_wp2
    go_ret
    exact ⟨rfl, f0.od.tr h2⟩
  have hI : decide ((100 : Int) < l.length) = false := by simp; omega
  go_enter Try.func3, Try.ntmps3
  go_wp2_with fail
  refine (bounded_any a _).mono ?_
  rintro r w1 ⟨rfl, h1⟩
  have f1 := f0.old h1
  clear f0 h1
  cases hq1 : boundedB a
  · go_wp2_with fail
    refine (shown_any _).mono ?_
    rintro r w2 ⟨rfl, h2⟩
    go_wp2
    go_ret
    exact ⟨rfl, f1.od.tr h2⟩
  obtain ⟨a0, a1, a2, a3, a4, a5⟩ := f1.bb.six
  go_wp2_with fail
  refine (bounded_any b _).mono ?_
  rintro r w2 ⟨rfl, h2⟩
  have f2 := f1.old h2
  clear f1 h2 a0 a1 a2 a3 a4 a5
  cases hq2 : boundedB b
  · go_wp2_with fail
    refine (shown_any _).mono ?_
    rintro r w3 ⟨rfl, h3⟩
    go_wp2
    go_ret
    exact ⟨rfl, f2.od.tr h3⟩
  go_wp2_with fail
  refine (shown_any _).mono ?_
  rintro r w3 ⟨rfl, h3⟩
  have f3 := f2.old h3
  clear f2 h3
  have f9 : F2 w w3 a b ∧ Cels w3 (.slice A l.length cap) l := ⟨f3, hc.old f3.od⟩
  clear f3 hI
  go_wp2_with fail
  go_region_held3 (fun W => (F2 w W a b ∧ Cels W (.slice A l.length cap) l) ∧ W.cell? ⟨w.heap.size, 0, none⟩ = some (.string (B a.row)) ∧ W.cell? ⟨w.heap.size, 1, none⟩ = some (.string (B a.col)) ∧ W.cell? ⟨w.heap.size, 2, none⟩ = some (.int .u64 a.ts) ∧ W.cell? ⟨w.heap.size, 3, none⟩ = some (.int .u64 a.seq) ∧ W.cell? ⟨w.heap.size, 4, none⟩ = some (.bool a.del) ∧ W.cell? ⟨w.heap.size, 5, none⟩ = some (.string (B a.val)) ∧ W.cell? ⟨w.heap.size + 1, 0, none⟩ = some (.string (B b.row)) ∧ W.cell? ⟨w.heap.size + 1, 1, none⟩ = some (.string (B b.col)) ∧ W.cell? ⟨w.heap.size + 1, 2, none⟩ = some (.int .u64 b.ts) ∧ W.cell? ⟨w.heap.size + 1, 3, none⟩ = some (.int .u64 b.seq) ∧ W.cell? ⟨w.heap.size + 1, 4, none⟩ = some (.bool b.del) ∧ W.cell? ⟨w.heap.size + 1, 5, none⟩ = some (.string (B b.val))) (first | exact tells_held (tells_old (And.left (by assumption)) (by assumption)) | exact tells_held (tells_old f9 (Old.re _).dr) | exact tells_held (And.left (by assumption)))
    (first
      | (go_at_call 13; with_reducible refine (may_any a _).mono ?_; rintro r w20 ⟨rfl, h20⟩)
      | (go_at_call 14; with_reducible refine (rmay_any a _).mono ?_; rintro r w21 ⟨rfl, h21⟩)
      | (go_at_call 15; with_reducible refine (cmp_any a b _).mono ?_; rintro r w22 ⟨rfl, h22⟩)
      | (go_at_call 16; with_reducible refine (rcmp_any a b _).mono ?_; rintro r w23 ⟨rfl, h23⟩)
      | (go_at_call 17; with_reducible refine (same_any a b _).mono ?_; rintro r w24 ⟨rfl, h24⟩)
      | (go_at_call 18; with_reducible refine (rsame_any a b _).mono ?_; rintro r w25 ⟨rfl, h25⟩)
      | (go_at_call 19; with_reducible refine (rising_at _ l _ hl (And.right (And.left (by assumption)))).mono ?_; rintro r w26 ⟨rfl, h26⟩)
      | (go_at_call 20; with_reducible refine (rrising_at _ l _ hl (And.right (And.left (by assumption)))).mono ?_; rintro r w27 ⟨rfl, h27⟩))
  have f10 : F2 w _ a b ∧ Cels _ (.slice A l.length cap) l := And.left (by assumption)
  go_wp2
  go_ret
  exact ⟨rfl, f10.1.od⟩

set_option maxRecDepth 100000 in
theorem cellTells_lifted (os : Os) (started : os.Started) (H : Type) (enc : TypeId × Value → H) :
    ReturnsInHanded {} Try.checked os 3 .any (Rows.cellTellsSpec.pre6 enc Try.prog Try.f3 Rows.cellTellsRow.domain false) (Rows.cellTellsSpec.post enc Try.prog Try.f3 false true false false) := by
  refine returnsInHanded_of_change (C := Try.checked) Try.own started (by kernel_rfl) Try.func3
    (ChangeSpec.witness6 (enc := enc) (C := Try.checked) false ⟨#[], #[.agg zeroCell, .agg zeroCell, .slice none 0 0], []⟩ 8 (by kernel_rfl) (by kernel_rfl) (by kernel_rfl) (by kernel_rfl)) ?_
  intro W base args ds gs before hval0 hW hcnd _
  have hval : ∀ (j : Nat) t v, Try.f3.params[j]? = some t → args[j]? = some v → Value.okWide Try.prog W .any base t v := hval0
  have hW' := hW
  obtain ⟨p, q, hA0, hV, rfl, hfz, hnd⟩ := hW
  have hA : DataW.TrodAll enc Try.prog W 0 (fun _ => true) true Try.f3.params.toList args.toList ds p := hA0
  rw [Try.params3] at hA hval
  obtain ⟨v0, v1, v2, d0, d1, d2, p0, p1, p2, rfl, rfl, rfl, h0, h1, h2⟩ := trodAll_three hA
  obtain ⟨rfl, rfl⟩ := trodVars_none hV
  have hlt : ∀ x ∈ p0 ++ (p1 ++ (p2)), x.block < W.heap.size := fun x hx => hW'.lt x (by simpa using hx)
  have k0 := h0
  have k1 := h1
  have k2 := h2
  obtain ⟨a0, rfl, o0, -⟩ := open_cel (hval 0 24 v0 rfl rfl) h0
  obtain ⟨a1, rfl, o1, -⟩ := open_cel (hval 1 24 v1 rfl rfl) h1
  obtain ⟨a2, o2, A, cap, rfl⟩ := open_cels (hval 2 25 v2 rfl rfl) h2 (fun x hx => hlt x (by simp [hx]))
  clear hA0 hval0
  refine (law_tells a0 a1 A cap a2 W o2).mono fun e W' ⟨he, hb⟩ => ?_
  subst he
  refine ⟨_, rfl, _, _, _, [], p0 ++ (p1 ++ (p2)), [], hW', trodAll_mk1 (shut_bool Try.underlying4 _), ?_, rfl, hb.frame _, fun h => by cases h⟩
  have r0 := Below.trod Try.laidOut (by kernel_rfl) (of_decide_eq_true (by kernel_rfl)) k0 hb (fun x hx => hlt x (by simp [hx]))
  have r1 := Below.trod Try.laidOut (by kernel_rfl) (of_decide_eq_true (by kernel_rfl)) k1 hb (fun x hx => hlt x (by simp [hx]))
  have r2 := Below.trod Try.laidOut (by kernel_rfl) (of_decide_eq_true (by kernel_rfl)) k2 hb (fun x hx => hlt x (by simp [hx]))
  exact trodAll_mk3 r0 r1 r2

theorem cellTells_holds : Rows.CellTellsSaid :=
  OpenClaim.holds_of_wide 3 Try.f3 rfl rfl rfl rfl rfl rfl rfl ⟨rfl, rfl, rfl, rfl, rfl⟩ rfl rfl rfl rfl rfl (by kernel_rfl) Try.func3 (by kernel_rfl)
    (of_decide_eq_true (by kernel_rfl)) (by unfold Func.isWrapper; first | (rw [if_pos (by decide +kernel)]; kernel_rfl) | (rw [if_neg (by decide +kernel)]; exact ⟨rfl, rfl⟩))
    (fun os started H enc _ => cellTells_lifted os started H enc)
#print axioms cellTells_holds
end Go.Proofs.Ythdpiagnjakjiaa
