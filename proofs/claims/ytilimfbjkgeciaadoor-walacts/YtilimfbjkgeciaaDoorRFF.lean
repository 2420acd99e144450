/-
  Texts in one: RFl RFn. Conditions: as each theorem writes them.
-/
import Derived.Test.YtilimfbjkgeciaaDoorWMad
import Derived.Deep.AppendLies
import Derived.Deep.RegionLaw
import Derived.Deep.RegionHeldLaw
namespace Go.Proofs.YtilimfbjkgeciaaDoor
set_option maxRecDepth 100000
open Go.RowKit

abbrev pcl (f : Pf) : Array Value := #[.string (B f.name), .string (B f.s), .int .i64 (f.n : Int)]
abbrev zeroFil : Array Value := #[.string ⟨#[]⟩, .string ⟨#[]⟩, .int .i64 0]
theorem Tryd.infoFil : (Tryd.prog.info? 83).map (fun i => (i.zero, i.size, i.bytes)) = some (some (.agg zeroFil), 3, 40) := by kernel_rfl
/-- A file lies here. -/
structure F3 (w : World) (b o : Nat) (x : Pf) : Prop where
  a0 : w.cell? ⟨b, o, none⟩ = some (.string (B x.name))
  a1 : w.cell? ⟨b, o + 1, none⟩ = some (.string (B x.s))
  a2 : w.cell? ⟨b, o + 2, none⟩ = some (.int .i64 (x.n : Int))
theorem F3.old {w w' : World} {b o : Nat} {x : Pf} (h : F3 w b o x) (k : Old w w') : F3 w' b o x :=
  ⟨cell_old h.a0 k, cell_old h.a1 k, cell_old h.a2 k⟩
def flatF (l : List Pf) : List Value := l.flatMap fun x => (pcl x).toList
theorem flatF_len (l : List Pf) : (flatF l).length = l.length * 3 := by
  induction l with
  | nil => rfl
  | cons x l ih =>
    rw [show flatF (x :: l) = (pcl x).toList ++ flatF l from rfl, List.length_append, ih]
    simp; omega
theorem flatF_app (l m : List Pf) : flatF (l ++ m) = flatF l ++ flatF m := by simp [flatF]
theorem flatF_at (l : List Pf) (i j : Nat) (x : Pf) (h : l[i]? = some x) (hj : j < 3) : (flatF l)[i * 3 + j]? = (pcl x)[j]? := by
  induction l generalizing i with
  | nil => simp at h
  | cons y l ih =>
    rw [show flatF (y :: l) = (pcl y).toList ++ flatF l from rfl]
    cases i with
    | zero =>
      simp only [List.getElem?_cons_zero, Option.some.injEq] at h
      subst h
      rw [List.getElem?_append_left (by simp; omega)]
      simp
    | succ i =>
      simp only [List.getElem?_cons_succ] at h
      rw [List.getElem?_append_right (by simp; omega), ← ih i h]
      congr 1
      simp
      omega
theorem flatF_one (l : List Pf) : ∀ u ∈ flatF l, u.oneCell' = true := by
  intro u hu
  obtain ⟨c, -, hc⟩ := List.mem_flatMap.1 hu
  simp at hc
  rcases hc with rfl | rfl | rfl <;> rfl
/-- Items lie here, one behind the other. -/
def FlsAt (w : World) (b off : Nat) (l : List Pf) : Prop := ∀ (i : Nat) (x : Pf), l[i]? = some x → F3 w b (off + i * 3) x
theorem FlsAt.old {w w' : World} {b off : Nat} {l : List Pf} (h : FlsAt w b off l) (k : Old w w') : FlsAt w' b off l := fun i x hx => (h i x hx).old k
theorem fls_news {w : World} {b off : Nat} {l : List Pf} (h : FlsAt w b off l) : ∀ j u, (flatF l)[j]? = some u → w.cell? ((⟨b, off, none⟩ : Addr).add j) = some u := by
  intro j u hu
  rw [Addr.add_lit]
  have hj : j < l.length * 3 := by rw [← flatF_len]; exact (List.getElem?_eq_some_iff.1 hu).1
  have hi : j / 3 < l.length := by omega
  have e := flatF_at l (j / 3) (j % 3) l[j / 3] (List.getElem?_eq_getElem hi) (by omega)
  rw [show j / 3 * 3 + j % 3 = j by omega, hu] at e
  obtain ⟨x0, x1, x2⟩ := h (j / 3) _ (List.getElem?_eq_getElem hi)
  generalize l[j / 3] = c at *
  have e6 : j % 3 = 0 ∨ j % 3 = 1 ∨ j % 3 = 2 := by omega
  rcases e6 with g | g | g
  · rw [g] at e; rw [show off + j = off + j / 3 * 3 by omega, x0]; exact e.symm
  · rw [g] at e; rw [show off + j = off + j / 3 * 3 + 1 by omega, x1]; exact e.symm
  · rw [g] at e; rw [show off + j = off + j / 3 * 3 + 2 by omega, x2]; exact e.symm

/-- A slice that reads as these cells. -/
def Fls (w : World) (v : Value) (l : List Pf) : Prop := (v = .slice none 0 0 ∧ l = []) ∨ ∃ A cap, v = .slice (some A) l.length cap ∧ l.length ≤ cap ∧ (l ≠ [] → ∃ b off, A = ⟨b, off, none⟩ ∧ FlsAt w b off l)
theorem Fls.old {w w' : World} {v : Value} {l : List Pf} (h : Fls w v l) (o : Old w w') : Fls w' v l := by
  rcases h with h | ⟨A, cap, h1, h2, h3⟩
  · exact .inl h
  · refine .inr ⟨A, cap, h1, h2, fun hl => ?_⟩
    obtain ⟨b, off, e, k⟩ := h3 hl
    exact ⟨b, off, e, k.old o⟩
theorem Fls.form {w : World} {v : Value} {l : List Pf} (h : Fls w v l) : ∃ A cap, v = .slice A l.length cap ∧ l.length ≤ cap := by
  rcases h with ⟨rfl, rfl⟩ | ⟨A, cap, h1, h2, h3⟩
  · exact ⟨none, 0, rfl, Nat.le_refl _⟩
  · exact ⟨_, _, h1, h2⟩
theorem Fls.at_ {w : World} {A : Option Addr} {n cap : Nat} {l : List Pf} (h : Fls w (.slice A n cap) l) {i : Nat} {x : Pf} (hx : l[i]? = some x) : ∃ b off, A = some ⟨b, off, none⟩ ∧ F3 w b (off + i * 3) x := by
  rcases h with ⟨h1, rfl⟩ | ⟨A', cap', h1, h2, h3⟩
  · simp at hx
  · obtain ⟨b, off, rfl, k⟩ := h3 (by rintro rfl; simp at hx)
    injection h1 with e1 e2 e3
    exact ⟨b, off, e1, k i x hx⟩
/-- A slice of the call's own, of cells (of the code's type, or the reference's). -/
def OwnF (w : World) (base : Nat) (v : Value) (l : List Pf) : Prop := w.ownsRow base 83 3 v l.length (flatF l)
theorem OwnF.nil (w : World) (base : Nat) : OwnF w base (.slice none 0 0) [] := World.ownsRow_nil _ _ _ _
theorem OwnF.empty {w : World} {base g : Nat} (h : Bk w g 83 #[]) (hb : base ≤ g) : OwnF w base (.slice (some ⟨g, 0, none⟩) 0 0) [] :=
  ⟨rfl, .inr ⟨g, 0, #[], rfl, hb, h, Nat.le_refl _, by simp, rfl, rfl⟩⟩
theorem OwnF.old {w w' : World} {base : Nat} {v : Value} {l : List Pf} (h : OwnF w base v l) (k : Old w w') : OwnF w' base v l := by
  refine ⟨h.1, ?_⟩
  rcases h.2 with h1 | ⟨gg, cap, cur, hv, hb, hg, rest⟩
  · exact .inl h1
  · exact .inr ⟨gg, cap, cur, hv, hb, (k.block _ (Array.getElem?_eq_some_iff.1 hg).1).trans hg, rest⟩
theorem OwnF.fls {w : World} {base : Nat} {v : Value} {l : List Pf} (h : OwnF w base v l) : Fls w v l := by
  rcases h.2 with ⟨rfl, hn⟩ | ⟨g, cap, cur, hv, hb, hg, hnc, hcm, hcs, htake⟩
  · exact .inl ⟨rfl, List.eq_nil_of_length_eq_zero hn⟩
  · refine .inr ⟨⟨g, 0, none⟩, cap, hv, hnc, fun _ => ⟨g, 0, rfl, fun i c hc => ?_⟩⟩
    have hcell : ∀ j, j < 3 → w.cell? ⟨g, 0 + i * 3 + j, none⟩ = (pcl c)[j]? := by
      intro j hj
      have h1 := flatF_at l i j c hc hj
      have h2 : ((pcl c)[j]?).isSome := by simp; omega
      obtain ⟨u, hu⟩ := Option.isSome_iff_exists.1 h2
      rw [hu] at h1 ⊢
      have h3 := World.ownsRow.cells h (g := g) (by rw [hv]; rfl) _ _ h1
      rw [Addr.add_lit] at h3
      rw [Nat.zero_add] at h3 ⊢
      exact h3
    exact ⟨hcell 0 (by omega), hcell 1 (by omega), hcell 2 (by omega)⟩
/-- append(v, x..) of cells: what comes of it. -/
theorem run_fls {W0 w : World} {v x : Value} {xs news : List Pf} (o : Old W0 w) (hown : OwnF w W0.heap.size v xs) (hx : Fls w x news) (hlen : (xs.length + news.length) * 40 ≤ 140737488355328) (ty : TypeId) :
    ∃ v' w', (Builtin.append_ #[27, 27] ty #[v, x]).run Tryd.prog w = .ok v' w' ∧ OwnF w' W0.heap.size v' (xs ++ news) ∧ Old W0 w' ∧ w.grownBy w' v.ownBlock ∧ (v'.ownBlock = v.ownBlock ∨ v'.ownBlock = some w.heap.size) := by
  obtain ⟨i0, hi, hz0, hz1, hz2⟩ := info_parts Tryd.infoFil
  rcases hx with ⟨rfl, rfl⟩ | ⟨A, cap, rfl, hc, hA⟩
  · refine ⟨v, w, run_append_owned_none (P := Tryd.prog) w W0.heap.size 27 ty 83 i0 3 Tryd.underlying27 hi v xs.length (flatF xs) hown, by rw [List.append_nil]; exact hown, o, ⟨rfl, rfl, rfl, Nat.le_refl _, fun _ _ _ => rfl⟩, .inl rfl⟩
  · have hnews : ∀ j u, (flatF news)[j]? = some u → w.cell? (A.add j) = some u := by
      intro j u hu
      have hne : news ≠ [] := by rintro rfl; simp [flatF] at hu
      obtain ⟨b, off, rfl, k⟩ := hA hne
      exact fls_news k j u hu
    obtain ⟨v', w', hr, h2, h3, -, h5⟩ := run_append_own_at (P := Tryd.prog) w W0.heap.size 27 ty 83 i0 (.agg zeroFil) 3 40 Tryd.underlying27 hi hz0 hz1 hz2 rfl (by decide) v xs.length (flatF xs) hown A news.length cap (flatF news) (flatF_len _) hnews (flatF_one _) (by unfold maxLen; omega) (by omega) o.size
    refine ⟨v', w', hr, ?_, o.trans ((Below.refl _ _).grown h3 o.size (fun k hk => (World.ownsRow.lt hown k hk).1)), h3, h5⟩
    unfold OwnF
    rw [flatF_app, List.length_append]
    exact h2
theorem wp_fls {ops : Array Oper} {rest : List Oper} {op : Oper} {a : Act} {Q : Exit → Act → World → Prop} {W0 w : World} (hgd : op.guard = none) (s x : Operand)
    (ho : op.op = .call { callee := .builtin .append, args := #[s, x], argTypes := #[27, 27] })
    (hW : Old W0 w) (v : Value) (xs news : List Pf) (hs : a.eval s = v) (hown : OwnF w W0.heap.size v xs) (xv : Value) (hx : a.eval x = xv) (hnews : Fls w xv news) (hlen : (xs.length + news.length) * 40 ≤ 140737488355328)
    (h : ∀ v' w', OwnF w' W0.heap.size v' (xs ++ news) → Old W0 w' → w.grownBy w' v.ownBlock → (v'.ownBlock = v.ownBlock ∨ v'.ownBlock = some w.heap.size) → wpList Tryd.prog ops Q rest (a.put op.dst v') w') : wpList Tryd.prog ops Q (op :: rest) a w := by
  obtain ⟨v', w', hr, h2, h3, h4, h5⟩ := run_fls hW hown hnews hlen op.type
  refine wpList_plain hgd fun K hK => ?_
  unfold Oper.wp execOp
  simp only [ho, resolve, invoke, builtin, Sem.run_bind, Sem.run_pure, Result.andThen_ok, List.map_toArray, List.map_cons, List.map_nil, hs, hx, hr]
  exact hK _ _ (h v' w' h2 h3 h4 h5)
theorem step_fls {ops : Array Oper} {op : Oper} {a : Act} {K : Act → World → Prop} {Q : Exit → Act → World → Prop} {E : Prop} {W0 w : World} (hgd : op.guard = none) (d : Option Nat) (hd : op.dst = d) (s x : Operand)
    (ho : op.op = .call { callee := .builtin .append, args := #[s, x], argTypes := #[27, 27] })
    (hW : Old W0 w) (v : Value) (xs news : List Pf) (hs : a.eval s = v) (hown : OwnF w W0.heap.size v xs) (xv : Value) (hx : a.eval x = xv) (hnews : Fls w xv news) (hlen : (xs.length + news.length) * 40 ≤ 140737488355328)
    (h : ∀ v' w', OwnF w' W0.heap.size v' (xs ++ news) → Old W0 w' → w.grownBy w' v.ownBlock → (v'.ownBlock = v.ownBlock ∨ v'.ownBlock = some w.heap.size) → K (a.put d v') w') :
    if Region.wanted op (yielded ops a.tmps) = true then Oper.wp Tryd.prog op a w K Q else E := by
  obtain ⟨v', w', hr, h2, h3, h4, h5⟩ := run_fls hW hown hnews hlen op.type
  have hw : Region.wanted op (yielded ops a.tmps) = true := by simp [Region.wanted, hgd]
  rw [if_pos hw]
  subst hd
  unfold Oper.wp execOp
  simp only [ho, resolve, invoke, builtin, Sem.run_bind, Sem.run_pure, Result.andThen_ok, List.map_toArray, List.map_cons, List.map_nil, hs, hx, hr]
  exact h v' w' h2 h3 h4 h5

/-- A slice of these files, whose row is of their type. -/
def Flt (w : World) (v : Value) (L : List Pf) : Prop := Fls w v L ∧ (L ≠ [] → ∀ b off n c, v = .slice (some ⟨b, off, none⟩) n c → ∃ cs, Bk w b 83 cs)
theorem Flt.old {w w' : World} {v : Value} {L : List Pf} (h : Flt w v L) (o : Old w w') : Flt w' v L :=
  ⟨h.1.old o, fun hl b off n c hv => by
    obtain ⟨cs, hh⟩ := h.2 hl b off n c hv
    exact ⟨cs, hh.old o⟩⟩
theorem Flt.bk {w w' : World} {v : Value} {L : List Pf} (h : Flt w v L) (o : ∀ (g : Nat) (cs : Array Value), Bk w g 83 cs → Bk w' g 83 cs) : Flt w' v L := by
  refine ⟨?_, fun hl b off n c hv => ?_⟩
  · rcases h.1 with h1 | ⟨A, cap, h1, h2, h3⟩
    · exact .inl h1
    · refine .inr ⟨A, cap, h1, h2, fun hl => ?_⟩
      obtain ⟨b, off, rfl, k⟩ := h3 hl
      obtain ⟨cs, hh⟩ := h.2 hl b off _ _ h1
      have e : w'.heap[b]? = w.heap[b]? := (o b cs hh).trans hh.symm
      refine ⟨b, off, rfl, fun i x hx => ?_⟩
      obtain ⟨a0, a1, a2⟩ := k i x hx
      exact ⟨by simpa [World.cell?, e] using a0, by simpa [World.cell?, e] using a1, by simpa [World.cell?, e] using a2⟩
  · obtain ⟨cs, hh⟩ := h.2 hl b off n c hv
    exact ⟨cs, o b cs hh⟩
theorem OwnF.flt {w : World} {base : Nat} {v : Value} {L : List Pf} (h : OwnF w base v L) : Flt w v L := by
  refine ⟨h.fls, fun hl b off n c hv => ?_⟩
  rcases h.2 with ⟨h1, -⟩ | ⟨g, cap, cur, h1, _, hh, _⟩
  · rw [h1] at hv; cases hv
  · rw [h1] at hv
    injection hv with e1 _ _
    injection e1 with e1
    injection e1 with e1 _ _
    subst e1
    exact ⟨cur, hh⟩
theorem cell_same {w w' : World} {b o : Nat} (h : w'.heap[b]? = w.heap[b]?) : w'.cell? ⟨b, o, none⟩ = w.cell? ⟨b, o, none⟩ := by simp [World.cell?, h]
theorem Flt.far {w : World} {v : Value} {L : List Pf} (h : Flt w v L) {g : Nat} {t : TypeId} {cs : Array Value} (b : Bk w g t cs) (ht : t ≠ 83) (o : Nat) (u : Value) : Flt (w.setCell ⟨g, o, none⟩ u) v L := by
  have key : L ≠ [] → ∀ bb off n c, v = .slice (some ⟨bb, off, none⟩) n c → (w.setCell ⟨g, o, none⟩ u).heap[bb]? = w.heap[bb]? := fun hl bb off n c hv => by
    obtain ⟨cs', hh⟩ := h.2 hl bb off n c hv
    refine Below.heap_setCell w ⟨g, o, none⟩ u bb (fun e => ?_)
    have e2 : bb = g := e
    subst e2
    exact Bk.ne b hh ht rfl
  refine ⟨?_, fun hl bb off n c hv => ?_⟩
  · rcases h.1 with h1 | ⟨A, cap, h1, h2, h3⟩
    · exact .inl h1
    · refine .inr ⟨A, cap, h1, h2, fun hl => ?_⟩
      obtain ⟨bb, off, rfl, k⟩ := h3 hl
      have hk := key hl bb off _ _ h1
      refine ⟨bb, off, rfl, fun i x hx => ?_⟩
      obtain ⟨a0, a1, a2⟩ := k i x hx
      exact ⟨(cell_same hk).trans a0, (cell_same hk).trans a1, (cell_same hk).trans a2⟩
  · obtain ⟨cs', hh⟩ := h.2 hl bb off n c hv
    exact ⟨cs', (key hl bb off n c hv).trans hh⟩
theorem Flt.far5 {w : World} {v : Value} {L : List Pf} (h : Flt w v L) {g : Nat} {t : TypeId} {u0 u1 u2 u3 u4 : Value} (b : Bk w g t #[u0, u1, u2, u3, u4]) (ht : t ≠ 83) (v0 v1 v2 v3 v4 : Value) :
    Flt (((((w.setCell ⟨g, 0, none⟩ v0).setCell ⟨g, 1, none⟩ v1).setCell ⟨g, 2, none⟩ v2).setCell ⟨g, 3, none⟩ v3).setCell ⟨g, 4, none⟩ v4) v L :=
  ((((h.far b ht 0 v0).far (b.set_ 0 v0) ht 1 v1).far ((b.set_ 0 v0).set_ 1 v1) ht 2 v2).far (((b.set_ 0 v0).set_ 1 v1).set_ 2 v2) ht 3 v3).far ((((b.set_ 0 v0).set_ 1 v1).set_ 2 v2).set_ 3 v3) ht 4 v4
theorem Flt.form {w : World} {v : Value} {L : List Pf} (h : Flt w v L) : ∃ A cap, v = .slice A L.length cap ∧ L.length ≤ cap := h.1.form

/-- A disk of the document's own, as a value. -/
abbrev Rv (fv : Value) (r : Pd) : Value := .agg #[.int .i64 (r.cap : Int), fv, .bool (!r.up), .int .i64 (r.left : Int), .int .i64 r.keep]
abbrev rcs (fv : Value) (r : Pd) : Array Value := #[.int .i64 (r.cap : Int), fv, .bool (!r.up), .int .i64 (r.left : Int), .int .i64 r.keep]
/-- What a call of it comes to. -/
def PostR (w : World) (r : Pd × Int) (e : Ending) (w' : World) : Prop :=
  ∃ A c, e = .returned (.tuple #[Rv (.slice A r.1.files.length c) r.1, .int .i64 r.2]) ∧ Flt w' (.slice A r.1.files.length c) r.1.files ∧ Old w w'
end Go.Proofs.YtilimfbjkgeciaaDoor

namespace Go.Proofs.YtilimfbjkgeciaaDoor
set_option maxRecDepth 100000
open Go.RowKit

theorem ptot_snoc' (L : List Pf) (f : Pf) : ptot (L ++ [f]) = ptot L + f.s.length := by simp [ptot]
/-- What can be reckoned with. -/
structure Fin (L : List Pf) : Prop where
  len : L.length ≤ 1000
  tot : ptot L ≤ 1000000
  syn : ∀ f ∈ L, f.n ≤ f.s.length
theorem le_ptot {L : List Pf} {f : Pf} (h : f ∈ L) : f.s.length ≤ ptot L := by
  induction L with
  | nil => cases h
  | cons y L ih =>
    simp only [ptot, List.map_cons, List.sum_cons] at ih ⊢
    rcases List.mem_cons.1 h with rfl | h
    · omega
    · have := ih h; omega

set_option maxHeartbeats 1000000 in
theorem rname_any (s : List UInt8) (w : World) :
    Calls Tryd.prog 77 #[.string (B s)] w fun e w' => e = .returned (.bool (!bad s)) ∧ w = w' := by
  obtain ⟨R, hR⟩ : ∃ R, R = bad s := ⟨_, rfl⟩
  rw [← hR]
  by_cases h1 : s.length < 1
  · have h1I : decide ((1 : Int) ≤ (s.length : Int)) = false := by rw [decide_eq_false_iff_not]; omega
    have HX := Lib.hid (show R = true by rw [hR]; unfold bad; simp [h1])
    clear hR
    go_enter Tryd.func77, Tryd.ntmps77
    go_wp2
    go_ret
    rw [HX.out]
    exact ⟨rfl, rfl⟩
  · have h1I : decide ((1 : Int) ≤ (s.length : Int)) = true := by rw [decide_eq_true_eq]; omega
    by_cases h2 : 60 < s.length
    · have h2I : decide ((s.length : Int) ≤ 60) = false := by rw [decide_eq_false_iff_not]; omega
      have HX := Lib.hid (show R = true by rw [hR]; unfold bad; simp [h2])
      clear hR
      go_enter Tryd.func77, Tryd.ntmps77
      go_wp2
      go_ret
      rw [HX.out]
      exact ⟨rfl, rfl⟩
    · have h2I : decide ((s.length : Int) ≤ 60) = true := by rw [decide_eq_true_eq]; omega
      have HX := Lib.hid (show R = false by rw [hR]; exact bad_of (by omega) (by omega))
      clear hR
      go_enter Tryd.func77, Tryd.ntmps77
      go_wp2
      go_ret
      rw [HX.out]
      exact ⟨rfl, rfl⟩

set_option maxHeartbeats 1000000 in
theorem rwrong_any (fv : Value) (r : Pd) (s : List UInt8) (w : World) :
    Calls Tryd.prog 60 #[Rv fv r, .string (B s)] w fun e w' => e = .returned (.int .i64 (perr r s)) ∧ Old w w' := by
  obtain ⟨R, hR⟩ : ∃ R, R = perr r s := ⟨_, rfl⟩
  rw [← hR]
  cases hu : r.up with
  | false =>
    have HX := Lib.hid (show R = 6 by rw [hR]; unfold perr; rw [hu]; rfl)
    clear hR
    go_enter Tryd.func60, Tryd.ntmps60
    go_wp2
    go_ret
    rw [HX.out]
    exact ⟨rfl, old_alloc _ _⟩
  | true =>
    have HN := Lib.hid (fun w1 => rname_any s w1)
    cases hb : bad s with
    | true =>
      rw [hb] at HN
      have HX := Lib.hid (show R = 1 by rw [hR]; unfold perr; rw [hu, hb]; rfl)
      clear hR hb
      go_enter Tryd.func60, Tryd.ntmps60
      go_wp2_with fail
      refine (HN.out _).mono ?_
      rintro e w1 ⟨rfl, rfl⟩
      go_wp2
      go_ret
      rw [HX.out]
      exact ⟨rfl, old_alloc _ _⟩
    | false =>
      rw [hb] at HN
      have HX := Lib.hid (show R = 0 by rw [hR]; unfold perr; rw [hu, hb]; rfl)
      clear hR hb
      go_enter Tryd.func60, Tryd.ntmps60
      go_wp2_with fail
      refine (HN.out _).mono ?_
      rintro e w1 ⟨rfl, rfl⟩
      go_wp2
      go_ret
      rw [HX.out]
      exact ⟨rfl, old_alloc _ _⟩

theorem bk5 {W : World} {g : Nat} {t : TypeId} {u0 u1 u2 u3 u4 : Value} (b : Bk W g t #[u0, u1, u2, u3, u4]) (v0 v1 v2 v3 v4 : Value) :
    Bk (((((W.setCell ⟨g, 0, none⟩ v0).setCell ⟨g, 1, none⟩ v1).setCell ⟨g, 2, none⟩ v2).setCell ⟨g, 3, none⟩ v3).setCell ⟨g, 4, none⟩ v4) g t #[v0, v1, v2, v3, v4] :=
  ((((b.set_ 0 v0).set_ 1 v1).set_ 2 v2).set_ 3 v3).set_ 4 v4
theorem old5 {w W : World} {g : Nat} (o : Old w W) (hg : w.heap.size ≤ g) (v0 v1 v2 v3 v4 : Value) :
    Old w (((((W.setCell ⟨g, 0, none⟩ v0).setCell ⟨g, 1, none⟩ v1).setCell ⟨g, 2, none⟩ v2).setCell ⟨g, 3, none⟩ v3).setCell ⟨g, 4, none⟩ v4) :=
  ((((o.st hg v0).st hg v1).st hg v2).st hg v3).st hg v4
abbrev zeroDsk : Array Value := #[.int .i64 0, .slice none 0 0, .bool false, .int .i64 0, .int .i64 0]
/-- One call less: the disk. -/
def rburn (r : Pd) : Pd := ⟨r.cap, r.files, r.up, r.left - 1, r.keep⟩
set_option maxHeartbeats 1000000 in
theorem rburns_any (A : Option Addr) (n c : Nat) (r : Pd) (hl : r.left ≤ 9223372036854775807) (w : World) :
    Calls Tryd.prog 82 #[Rv (.slice A n c) r] w fun e w' => e = .returned (.tuple #[Rv (.slice A n c) (rburn r), .bool (decide (r.left = 1))]) ∧ Old w w' := by
  obtain ⟨cap, files, up, left, keep⟩ := r
  unfold rburn
  simp only at hl ⊢
  by_cases h0 : left = 0
  · subst h0
    go_enter Tryd.func82, Tryd.ntmps82
    go_wp2
    refine bodyPost_ret (v := .tuple #[Rv (.slice A n c) ⟨cap, files, up, 0, keep⟩, .bool false]) (by simp [results, Tryd.results82, go_sem]) rfl ⟨rfl, ?_⟩
    repeat (first | exact Old.re _ | apply Old.al | refine Old.st ?_ (by simp) _)
  · have h0I : ((left : Int) == 0) = false := by rw [beq_eq_false_iff_ne]; omega
    have hsub : (left : Int) - 1 = ((left - 1 : Nat) : Int) := by omega
    have hw : IntKind.i64.wrap ((left : Int) - 1) = ((left - 1 : Nat) : Int) := by rw [IntKind.wrap_i64]; omega
    have hd : (((left - 1 : Nat) : Int) == 0) = decide (left = 1) := by
      by_cases h1 : left = 1
      · subst h1; rfl
      · rw [decide_eq_false h1, beq_eq_false_iff_ne]; omega
    go_enter Tryd.func82, Tryd.ntmps82
    go_wp2
    have b1 : Bk ((w.alloc (.cells (rcs (.slice A n c) ⟨cap, files, up, left - 1, keep⟩) 29)).alloc (.cells zeroDsk 29)) w.heap.size 29 (rcs (.slice A n c) ⟨cap, files, up, left - 1, keep⟩) := (new_bk w _ _).old (old_alloc _ _)
    have b2 : Bk ((w.alloc (.cells (rcs (.slice A n c) ⟨cap, files, up, left - 1, keep⟩) 29)).alloc (.cells zeroDsk 29)) (w.heap.size + 1) 29 zeroDsk := new_bk' _ _ _ _ (by simp)
    have o : Old w ((w.alloc (.cells (rcs (.slice A n c) ⟨cap, files, up, left - 1, keep⟩) 29)).alloc (.cells zeroDsk 29)) := (old_alloc _ _).al _
    generalize (w.alloc (.cells (rcs (.slice A n c) ⟨cap, files, up, left - 1, keep⟩) 29)).alloc (.cells zeroDsk 29) = W at *
    have c0 : W.cell? ⟨w.heap.size, 0, none⟩ = some (.int .i64 (cap : Int)) := b1.at_ 0 rfl
    have c1 : W.cell? ⟨w.heap.size, 1, none⟩ = some (.slice A n c) := b1.at_ 1 rfl
    have c2 : W.cell? ⟨w.heap.size, 2, none⟩ = some (.bool (!up)) := b1.at_ 2 rfl
    have c3 : W.cell? ⟨w.heap.size, 3, none⟩ = some (.int .i64 ((left - 1 : Nat) : Int)) := b1.at_ 3 rfl
    have c4 : W.cell? ⟨w.heap.size, 4, none⟩ = some (.int .i64 keep) := b1.at_ 4 rfl
    have d0 : W.cell? ⟨w.heap.size + 1, 0, none⟩ = some (.int .i64 0) := b2.at_ 0 rfl
    have d1 : W.cell? ⟨w.heap.size + 1, 1, none⟩ = some (.slice none 0 0) := b2.at_ 1 rfl
    have d2 : W.cell? ⟨w.heap.size + 1, 2, none⟩ = some (.bool false) := b2.at_ 2 rfl
    have d3 : W.cell? ⟨w.heap.size + 1, 3, none⟩ = some (.int .i64 0) := b2.at_ 3 rfl
    have d4 : W.cell? ⟨w.heap.size + 1, 4, none⟩ = some (.int .i64 0) := b2.at_ 4 rfl
    have f0 := b2.fr 0
    have f1 := b2.fr 1
    have f2 := b2.fr 2
    have f3 := b2.fr 3
    have f4 := b2.fr 4
    go_region
    have b3 := bk5 b2 (.int .i64 (cap : Int)) (.slice A n c) (.bool (!up)) (.int .i64 ((left - 1 : Nat) : Int)) (.int .i64 keep)
    have o3 := old5 o (Nat.le_succ _) (.int .i64 (cap : Int)) (.slice A n c) (.bool (!up)) (.int .i64 ((left - 1 : Nat) : Int)) (.int .i64 keep)
    clear b1 b2 o c0 c1 c2 c3 c4 d0 d1 d2 d3 d4 f0 f1 f2 f3 f4
    generalize ((((W.setCell ⟨w.heap.size + 1, 0, none⟩ (.int .i64 (cap : Int))).setCell ⟨w.heap.size + 1, 1, none⟩ (.slice A n c)).setCell ⟨w.heap.size + 1, 2, none⟩ (.bool (!up))).setCell ⟨w.heap.size + 1, 3, none⟩ (.int .i64 ((left - 1 : Nat) : Int))).setCell ⟨w.heap.size + 1, 4, none⟩ (.int .i64 keep) = W2 at *
    have e0 : W2.drew.cell? ⟨w.heap.size + 1, 0, none⟩ = some (.int .i64 (cap : Int)) := b3.at_ 0 rfl
    have e1 : W2.drew.cell? ⟨w.heap.size + 1, 1, none⟩ = some (.slice A n c) := b3.at_ 1 rfl
    have e2 : W2.drew.cell? ⟨w.heap.size + 1, 2, none⟩ = some (.bool (!up)) := b3.at_ 2 rfl
    have e3 : W2.drew.cell? ⟨w.heap.size + 1, 3, none⟩ = some (.int .i64 ((left - 1 : Nat) : Int)) := b3.at_ 3 rfl
    have e4 : W2.drew.cell? ⟨w.heap.size + 1, 4, none⟩ = some (.int .i64 keep) := b3.at_ 4 rfl
    have o4 := o3.dr
    clear o3 b3
    generalize W2.drew = W3 at *
    go_wp2
    refine bodyPost_ret (v := .tuple #[Rv (.slice A n c) ⟨cap, files, up, left - 1, keep⟩, .bool (decide (left = 1))]) (by simp [results, Tryd.results82, go_sem, e0, e1, e2, e3, e4]) rfl ⟨rfl, ?_⟩
    exact o4

theorem pfnd_at {L : List Pf} {s : List UInt8} {j : Nat} (hj : j < L.length) (hb : ∀ q (h : q < L.length), q < j → L[q].name ≠ s) (he : L[j].name = s) : pfnd L s = some L[j] := by
  unfold pfnd
  rw [List.find?_eq_some_iff_getElem]
  exact ⟨by simpa using he, j, hj, rfl, fun q hq => by simpa using hb q (by omega) hq⟩
theorem pfnd_not {L : List Pf} {s : List UInt8} (hb : ∀ q (h : q < L.length), L[q].name ≠ s) : pfnd L s = none := by
  unfold pfnd
  rw [List.find?_eq_none]
  intro f hf
  obtain ⟨q, hq, rfl⟩ := List.getElem_of_mem hf
  simpa using hb q hq
theorem Fls.room {w : World} {A : Option Addr} {n c : Nat} {L : List Pf} (h : Fls w (.slice A n c) L) : L.length ≤ c := by
  obtain ⟨A', c', e, h'⟩ := h.form
  injection e with _ _ e
  subst e
  exact h'
/-- Where a file of this name stands. -/
def At_ (L : List Pf) (s : List UInt8) (i : Int) : Prop := (pfnd L s = none ∧ i = -1) ∨ ∃ (k : Nat) (f : Pf), pfnd L s = some f ∧ L[k]? = some f ∧ i = (k : Int)
set_option maxHeartbeats 2000000 in
theorem rfind_any (A : Option Addr) (c : Nat) (r : Pd) (s : List UInt8) (hl : r.files.length ≤ 1000) (w : World) (h : Fls w (.slice A r.files.length c) r.files) :
    Calls Tryd.prog 61 #[Rv (.slice A r.files.length c) r, .string (B s)] w fun e w' => ∃ i, e = .returned (.int .i64 i) ∧ At_ r.files s i ∧ Old w w' := by
  obtain ⟨cap, L, up, left, keep⟩ := r
  simp only at hl h ⊢
  have hlc := h.room
  have b1 := new_bk w 29 #[.int .i64 (cap : Int), .slice A L.length c, .bool (!up), .int .i64 (left : Int), .int .i64 keep]
  have o := old_alloc w (.cells #[.int .i64 (cap : Int), .slice A L.length c, .bool (!up), .int .i64 (left : Int), .int .i64 keep] 29)
  go_enter Tryd.func61, Tryd.ntmps61
  go_wp2_with fail
  have hF := h.old o
  generalize w.alloc (.cells #[.int .i64 (cap : Int), .slice A L.length c, .bool (!up), .int .i64 (left : Int), .int .i64 keep] 29) = W at *
  have c1 : W.cell? ⟨w.heap.size, 1, none⟩ = some (.slice A L.length c) := b1.at_ 1 rfl
  clear b1 h
  go_loop [5] (fun i => ∃ j : Nat, j ≤ L.length ∧ i = .int .i64 j ∧ Hid (∀ q (h : q < L.length), q < j → L[q].name ≠ s)) (fun i => L.length - (intOf i).toNat)
  case atStart => exact ⟨0, Nat.zero_le _, rfl, Lib.hid fun q _ h => absurd h (Nat.not_lt_zero _)⟩
  case round =>
    obtain ⟨j, hj, rfl, HA⟩ := hrel
    by_cases hlt : j < L.length
    · obtain ⟨b, off, rfl, a0, a1, a2⟩ := hF.at_ (List.getElem?_eq_getElem hlt)
      have HY := Lib.hid (fun (e : L[j].name = s) => (show At_ L s (j : Int) from .inr ⟨j, L[j], pfnd_at hlt HA.out e, List.getElem?_eq_getElem hlt, rfl⟩))
      have HN := Lib.hid (fun (e : L[j].name ≠ s) => (show ∀ q (h : q < L.length), q < j + 1 → L[q].name ≠ s from fun q h hq => by
        rcases Nat.lt_or_ge q j with h1 | h1
        · exact HA.out q h h1
        · obtain rfl : q = j := by omega
          exact e))
      generalize L[j] = x at *
      obtain ⟨xn, xs, xk⟩ := x
      simp only at a0 a1 a2 HY HN
      by_cases he : xn = s
      · have hbe : (xn == s) = true := by simpa using he
        have HX := Lib.hid (HY.out he)
        clear he HY HN
        go_wp2
        go_ret
        exact ⟨_, rfl, HX.out, o⟩
      · have hbe : (xn == s) = false := by simpa using he
        have HX := Lib.hid (HN.out he)
        clear he HY HN
        go_wp2
        go_round
        case rel => exact ⟨j + 1, by omega, by go_num, HX⟩
        case measure => simp [intOf]; omega
    · have HX := Lib.hid (show At_ L s (-1) from .inl ⟨pfnd_not fun q h => HA.out q h (by omega), rfl⟩)
      go_wp2
      go_ret
      exact ⟨_, rfl, HX.out, o⟩

theorem ptot_take (L : List Pf) (j : Nat) (h : j < L.length) : ptot (L.take (j + 1)) = ptot (L.take j) + L[j].s.length := by
  rw [List.take_succ_eq_append_getElem h, ptot_snoc']
theorem ptot_take_le (L : List Pf) (j : Nat) : ptot (L.take j) ≤ ptot L := by
  have : ptot L = ptot (L.take j) + ptot (L.drop j) := by
    unfold ptot
    rw [← List.sum_append, ← List.map_append, List.take_append_drop]
  omega
set_option maxHeartbeats 2000000 in
theorem rsize_any (A : Option Addr) (c : Nat) (r : Pd) (hl : r.files.length ≤ 1000) (hp : ptot r.files ≤ 1000000) (w : World) (h : Fls w (.slice A r.files.length c) r.files) :
    Calls Tryd.prog 47 #[Rv (.slice A r.files.length c) r] w fun e w' => e = .returned (.int .i64 (ptot r.files : Nat)) ∧ Old w w' := by
  obtain ⟨cap, L, up, left, keep⟩ := r
  simp only at hl hp h ⊢
  have hlc := h.room
  have b1 := new_bk w 29 #[.int .i64 (cap : Int), .slice A L.length c, .bool (!up), .int .i64 (left : Int), .int .i64 keep]
  have o := old_alloc w (.cells #[.int .i64 (cap : Int), .slice A L.length c, .bool (!up), .int .i64 (left : Int), .int .i64 keep] 29)
  go_enter Tryd.func47, Tryd.ntmps47
  go_wp2_with fail
  have hF := h.old o
  generalize w.alloc (.cells #[.int .i64 (cap : Int), .slice A L.length c, .bool (!up), .int .i64 (left : Int), .int .i64 keep] 29) = W at *
  have c1 : W.cell? ⟨w.heap.size, 1, none⟩ = some (.slice A L.length c) := b1.at_ 1 rfl
  clear b1 h
  go_loop [3, 4] (fun n i => ∃ j : Nat, j ≤ L.length ∧ i = .int .i64 j ∧ n = .int .i64 (ptot (L.take j) : Nat)) (fun _ i => L.length - (intOf i).toNat)
  case atStart => exact ⟨0, Nat.zero_le _, rfl, rfl⟩
  case round =>
    obtain ⟨j, hj, rfl, rfl⟩ := hrel
    have hple := ptot_take_le L j
    by_cases hlt : j < L.length
    · obtain ⟨b, off, rfl, a0, a1, a2⟩ := hF.at_ (List.getElem?_eq_getElem hlt)
      have HT := Lib.hid (ptot_take L j hlt)
      have hxl := ptot_take_le L (j + 1)
      rw [HT.out] at hxl
      generalize ptot (L.take j) = n at *
      generalize L[j] = x at *
      obtain ⟨xn, xs, xk⟩ := x
      simp only at a0 a1 a2 hxl HT
      have hw : IntKind.i64.wrap ((n : Int) + (xs.length : Int)) = ((n + xs.length : Nat) : Int) := by rw [IntKind.wrap_i64]; omega
      go_wp2
      go_round
      case rel => exact ⟨j + 1, by omega, by go_num, by rw [HT.out]; try (first | rfl | (congr 1; omega))⟩
      case measure => simp [intOf]; omega
    · have HX := Lib.hid (show ptot (L.take j) = ptot L by rw [List.take_of_length_le (by omega)])
      generalize ptot (L.take j) = n at *
      go_wp2
      go_ret
      exact ⟨ret_int (by rw [HX.out]), o⟩
set_option maxHeartbeats 1000000 in
theorem rSize_any (A : Option Addr) (c : Nat) (r : Pd) (hl : r.files.length ≤ 1000) (hp : ptot r.files ≤ 1000000) (w : World) (h : Fls w (.slice A r.files.length c) r.files) :
    Calls Tryd.prog 26 #[Rv (.slice A r.files.length c) r] w fun e w' => e = .returned (.int .i64 (ptot r.files : Nat)) ∧ Old w w' := by
  have o := old_alloc w (.cells #[.int .i64 (r.cap : Int), .slice A r.files.length c, .bool (!r.up), .int .i64 (r.left : Int), .int .i64 r.keep] 29)
  have H := Lib.hid (rsize_any A c r hl hp _ (h.old o))
  clear h
  go_enter Tryd.func26, Tryd.ntmps26
  go_wp2_with fail
  refine H.out.mono ?_
  rintro e w1 ⟨rfl, o1⟩
  go_wp2
  go_ret
  exact ⟨rfl, o.tr o1⟩
end Go.Proofs.YtilimfbjkgeciaaDoor
