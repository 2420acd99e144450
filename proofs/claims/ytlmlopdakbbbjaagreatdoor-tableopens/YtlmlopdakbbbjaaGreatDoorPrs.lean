/-
  Parse of the code. Condition: the text has at most 500000 bytes.
-/
import Derived.Test.YtlmlopdakbbbjaaGreatDoorItr
namespace Go.Proofs.YtlmlopdakbbbjaaGreatDoor
open Go.RowKit Go.Shelf

attribute [local go_sem] Oper.semAt_some

theorem Tryz.infoCell : (Tryz.prog.info? 34).map (fun i => (i.zero, i.size, i.bytes)) = some (some (.agg zeroCell), 6, 72) := by kernel_rfl
/-- Cells, as memory has them. -/
def flat (l : List Cel) : List Value := l.flatMap fun c => (cells c).toList
theorem flat_len (l : List Cel) : (flat l).length = l.length * 6 := by
  induction l with
  | nil => rfl
  | cons c l ih => simp only [flat, List.flatMap_cons, List.length_append, List.length_cons] at *; rw [ih]; simp; omega
theorem flat_snoc (l : List Cel) (c : Cel) : flat (l ++ [c]) = flat l ++ (cells c).toList := by simp [flat]
theorem flat_at (l : List Cel) (i j : Nat) (c : Cel) (h : l[i]? = some c) (hj : j < 6) : (flat l)[i * 6 + j]? = (cells c).toList[j]? := by
  induction l generalizing i with
  | nil => simp at h
  | cons d l ih =>
    have e : flat (d :: l) = (cells d).toList ++ flat l := by simp [flat]
    rw [e]
    cases i with
    | zero =>
      simp at h
      subst h
      rw [List.getElem?_append_left (by simp; omega)]
      simp
    | succ i =>
      rw [List.getElem?_append_right (by simp; omega)]
      have := ih i (by simpa using h)
      rw [← this]
      congr 1
      simp; omega

/-- A slice of the call's own that holds just these cells. -/
def OwnC (w : World) (base : Nat) (v : Value) (l : List Cel) : Prop := w.ownsRow base 34 6 v l.length (flat l)
theorem OwnC.nil (w : World) (base : Nat) : OwnC w base (.slice none 0 0) [] := World.ownsRow_nil _ _ _ _
theorem OwnC.cels {w : World} {base : Nat} {v : Value} {l : List Cel} (h : OwnC w base v l) : Cels w v l := by
  rcases h.2 with ⟨rfl, hn⟩ | ⟨g, cap, cur, hv, hb, hg, hnc, hcm, hcs, htake⟩
  · exact .inl ⟨List.eq_nil_of_length_eq_zero hn, none, 0, rfl⟩
  · refine .inr ⟨g, 0, cap, hv, fun i c hc => ?_⟩
    have hcell : ∀ j, j < 6 → w.cell? ⟨g, 0 + i * 6 + j, none⟩ = (cells c).toList[j]? := by
      intro j hj
      have h1 := flat_at l i j c hc hj
      have h2 : ((cells c).toList[j]?).isSome := by simp; omega
      obtain ⟨u, hu⟩ := Option.isSome_iff_exists.1 h2
      rw [hu] at h1 ⊢
      have h3 := World.ownsRow.cells h (g := g) (by rw [hv]; rfl) _ _ h1
      rw [Addr.add_lit] at h3
      rw [Nat.zero_add] at h3 ⊢
      exact h3
    exact ⟨hcell 0 (by omega), hcell 1 (by omega), hcell 2 (by omega), hcell 3 (by omega), hcell 4 (by omega), hcell 5 (by omega)⟩
theorem OwnC.its {A Z : World} {g base : Nat} {v : Value} {l : List Cel} (h : OwnC A base v l) (k : Its itsT g A Z) : OwnC Z base v l := by
  refine ⟨h.1, ?_⟩
  rcases h.2 with h1 | ⟨gg, cap, cur, hv, hb, hg, rest⟩
  · exact .inl h1
  · exact .inr ⟨gg, cap, cur, hv, hb, k.block _ _ hg (.inr ⟨rfl, rfl⟩), rest⟩
theorem OwnC.far {w : World} {base : Nat} {v : Value} {l : List Cel} (h : OwnC w base v l) {g : Nat} (hg : g < base) (o : Nat) (u : Value) : OwnC (w.setCell ⟨g, o, none⟩ u) base v l := by
  have hb : w.grownBy (w.setCell ⟨g, o, none⟩ u) (some g) := ⟨rfl, rfl, rfl, by simp [World.setCell], fun i _ hne => Below.heap_setCell w ⟨g, o, none⟩ u i (by rintro rfl; exact hne rfl)⟩
  refine World.ownsRow.kept (row := some g) h hb (.inr ?_)
  intro e
  have := (World.ownsRow.lt h g e).1
  omega
theorem OwnC.not {w : World} {base : Nat} {v : Value} {l : List Cel} (h : OwnC w base v l) {g : Nat} (hg : g < base) : some g ≠ v.ownBlock := by
  intro e
  have := (World.ownsRow.lt h g e.symm).1
  omega
theorem OwnC.old {w w' : World} {base : Nat} {v : Value} {l : List Cel} (h : OwnC w base v l) (k : Old w w') : OwnC w' base v l := by
  refine ⟨h.1, ?_⟩
  rcases h.2 with h1 | ⟨gg, cap, cur, hv, hb, hg, rest⟩
  · exact .inl h1
  · exact .inr ⟨gg, cap, cur, hv, hb, (k.block _ (Array.getElem?_eq_some_iff.1 hg).1).trans hg, rest⟩
theorem Bk.its {A Z : World} {g b : Nat} {t : TypeId} {cs : Array Value} (h : Bk A b t cs) (k : Its itsT g A Z) (hb : b < g) : Bk Z b t cs := k.block _ _ h (.inl hb)
theorem Old.its {w A Z : World} {g : Nat} (h : Old w A) (k : Its itsT g A Z) (hg : w.heap.size ≤ g) : Old w Z :=
  ⟨k.os.trans h.os, k.tape.trans h.tape, k.output.trans h.output, Nat.le_trans h.size k.size, fun i hi => by
    have h1 : w.heap[i]? = some w.heap[i] := Array.getElem?_eq_getElem hi
    have h2 := (h.block i hi).trans h1
    rw [h1]
    exact k.block i _ h2 (.inl (by omega))⟩

/-- Parse between two rounds: the cells so far. -/
structure Pi (w : World) (g : Nat) (L : List (Option Cel)) (k : Nat) (W : World) : Prop where
  r0 : Bk W w.heap.size 22 #[.slice none 0 0]
  r1 : Bk W (w.heap.size + 1) 26 #[.int .i64 0]
  ex : ∃ v l, L.take k = l.map some ∧ Bk W (w.heap.size + 2) 22 #[v] ∧ OwnC W g v l
  od : Old w W
  gw : w.heap.size + 2 < g
  sz : g ≤ W.heap.size
theorem Pi.its {w A Z : World} {g : Nat} {L : List (Option Cel)} {k : Nat} (h : Pi w g L k A) (i : Its itsT g A Z) : Pi w g L k Z := by
  obtain ⟨v, l, hl, hb, ho⟩ := h.ex
  have hg := h.gw
  exact ⟨h.r0.its i (by omega), h.r1.its i (by omega), ⟨v, l, hl, hb.its i (by omega), ho.its i⟩, h.od.its i (by omega), hg, Nat.le_trans h.sz i.size⟩
/-- Parse behind what is wrong. -/
structure Px (w : World) (g : Nat) (W : World) : Prop where
  r0 : Bk W w.heap.size 22 #[.slice none 0 0]
  r1 : Bk W (w.heap.size + 1) 26 #[.int .i64 50]
  od : Old w W
  gw : w.heap.size + 2 < g
theorem Px.its {w A Z : World} {g : Nat} (h : Px w g A) (i : Its itsT g A Z) : Px w g Z := by
  have hg := h.gw
  exact ⟨h.r0.its i (by omega), h.r1.its i (by omega), h.od.its i (by omega), hg⟩

theorem Bk.below {w w' : World} {g b : Nat} {t : TypeId} {cs : Array Value} (h : Bk w b t cs) (k : Below g w w') (hb : b < g) : Bk w' b t cs := (k.block b hb).trans h
theorem OwnC.form {w : World} {base : Nat} {v : Value} {l : List Cel} (h : OwnC w base v l) : ∃ A n cap, v = .slice A n cap := by
  rcases h.2 with ⟨rfl, _⟩ | ⟨g', cap, cur, rfl, _⟩
  · exact ⟨_, _, _, rfl⟩
  · exact ⟨_, _, _, rfl⟩
theorem Bk.puto {W : World} {b l : Nat} {t : TypeId} {cs : Array Value} {o : Obj} {o' : Obj} (h : Bk W b t cs) (hl : W.heap[l]? = some o) (hc : o.isCells = false) : Bk (W.putObj l o') b t cs := by
  refine (World.putObj_heap_other ?_).trans h
  rintro rfl
  rw [show W.heap[b]? = _ from h] at hl
  injection hl with hl
  subst hl
  cases hc
/-- What is handed over of a thing that is told. -/
def xs : Option Cel → Array Value
  | some c => ens c (key c)
  | none => zero7
def xe : Option Cel → Int
  | some _ => 0
  | none => 50
/-- Something is wrong. -/
def badI (L : List (Option Cel)) : Prop := L.all Option.isSome = false
theorem itsR_len (m : Nat) : ∀ (p : Nat) (last l : List UInt8), (itsR m p last l).length ≤ m + 1 := by
  induction m with
  | zero => intro p last l; rw [itsR_zero]; split <;> simp
  | succ m ih =>
    intro p last l
    rw [itsR_succ]
    unfold tellI
    split
    · simp
    · rename_i x _
      split
      · have := ih (p + 1) (key x.1) x.2
        simp only [List.length_cons]
        omega
      · simp
theorem itsOf_len (s : List UInt8) : (itsOf s).length ≤ 256 := by
  cases s with
  | nil => simp [itsOf]
  | cons b t =>
    have h1 := itsR_len b.toNat 0 [] t
    have h2 := b.toNat_lt
    show (itsR b.toNat 0 [] t).length ≤ 256
    omega
theorem at_len {α : Type} {L : List α} {k : Nat} {x : α} (h : L[k]? = some x) : k < L.length := (List.getElem?_eq_some_iff.1 h).1
theorem take_len {L : List (Option Cel)} {k : Nat} {l : List Cel} (hk : k ≤ L.length) (h : L.take k = l.map some) : l.length = k := by
  have := congrArg List.length h
  simp at this
  omega
theorem take_more {L : List (Option Cel)} {k : Nat} {l : List Cel} {c : Cel} (hx : L[k]? = some (some c)) (h : L.take k = l.map some) : L.take (k + 1) = (l ++ [c]).map some := by
  rw [List.take_add_one, hx, h]; simp
/-- Which cells bytes are, if any. -/
def parseO (s : List UInt8) : Option (List Cel) := if (itsOf s).all Option.isSome = true then some ((itsOf s).filterMap id) else none
def parseE (s : List UInt8) : Int := match parseO s with
  | some _ => 0
  | none => 50

set_option maxRecDepth 100000 in
set_option maxHeartbeats 4000000 in
theorem parse_in (n : Nat) (hn : 3 ≤ n) (s : List UInt8) (hs : s.length ≤ 500000) (w : World) :
    CallsIn Fence.wide n Tryz.prog 66 #[.string (B s)] w fun e W' => ∃ v, e = .returned (.tuple #[v, .int .i64 (parseE s)]) ∧ (∃ base, OwnC W' base v ((parseO s).getD [])) ∧ Old w W' := by
  have h1 : 1 ≤ n := by omega
  refine callsIn_of_wp_marks Tryz.func66 rfl trivial ?_ rfl
  simp only [Tryz.ntmps66, List.size_toArray, List.length_cons, List.length_nil, Nat.reduceAdd, Nat.reduceSub, Array.replicate_succ, Array.replicate_zero, List.push_toArray, List.append_toArray, List.nil_append, List.cons_append]
  gi_wp2_with (refine ⟨trivial, ?_⟩; gi_at_call 89; refine (entries_in (n - 1) s _).mono ?_; rintro e w' ⟨rfl, rfl⟩)
  have t0 : Bk ((((w.alloc (.cells #[.slice none 0 0] 22)).alloc (.cells #[.int .i64 0] 26)).alloc (.cells #[.slice none 0 0] 22)).alloc (.cells #[.string (B s)] 9)) w.heap.size 22 #[.slice none 0 0] := (((new_bk _ _ _).alloc _).alloc _).alloc _
  have t1 : Bk ((((w.alloc (.cells #[.slice none 0 0] 22)).alloc (.cells #[.int .i64 0] 26)).alloc (.cells #[.slice none 0 0] 22)).alloc (.cells #[.string (B s)] 9)) (w.heap.size + 1) 26 #[.int .i64 0] := ((new_bk1 _ _ _ _).alloc _).alloc _
  have t2 : Bk ((((w.alloc (.cells #[.slice none 0 0] 22)).alloc (.cells #[.int .i64 0] 26)).alloc (.cells #[.slice none 0 0] 22)).alloc (.cells #[.string (B s)] 9)) (w.heap.size + 1 + 1) 22 #[.slice none 0 0] := by
    have := (new_bk1 (w.alloc (.cells #[.slice none 0 0] 22)) (.cells #[.int .i64 0] 26) 22 #[.slice none 0 0]).alloc (.cells #[.string (B s)] 9)
    rwa [World.size_alloc] at this
  have t3 : Bk ((((w.alloc (.cells #[.slice none 0 0] 22)).alloc (.cells #[.int .i64 0] 26)).alloc (.cells #[.slice none 0 0] 22)).alloc (.cells #[.string (B s)] 9)) (w.heap.size + 1 + 1 + 1) 9 #[.string (B s)] := by
    have := new_bk1 ((w.alloc (.cells #[.slice none 0 0] 22)).alloc (.cells #[.int .i64 0] 26)) (.cells #[.slice none 0 0] 22) 9 #[.string (B s)]
    rwa [World.size_alloc, World.size_alloc] at this
  have o0 : Old w ((((w.alloc (.cells #[.slice none 0 0] 22)).alloc (.cells #[.int .i64 0] 26)).alloc (.cells #[.slice none 0 0] 22)).alloc (.cells #[.string (B s)] 9)) := ((((Old.re _).al _).al _).al _).al _
  have hsz : ((((w.alloc (.cells #[.slice none 0 0] 22)).alloc (.cells #[.int .i64 0] 26)).alloc (.cells #[.slice none 0 0] 22)).alloc (.cells #[.string (B s)] 9)).heap.size = w.heap.size + 1 + 1 + 1 + 1 := by simp
  generalize ((((w.alloc (.cells #[.slice none 0 0] 22)).alloc (.cells #[.int .i64 0] 26)).alloc (.cells #[.slice none 0 0] 22)).alloc (.cells #[.string (B s)] 9)) = W0 at *
  refine range_its (encs := encE) (T := itsT) (L := itsOf s) rfl h1 (gf := 109) (lb := #[.pointer (some ⟨w.heap.size + 1 + 1 + 1, 0, none⟩)]) rfl trivial (enters_of Tryz.func109 (by kernel_rfl) rfl)
    (entries_tells (n - 1) (by omega) _ s hs W0 (t3.cell 0)) (fun x => by cases x <;> rfl)
    (Pi w W0.heap.size (itsOf s)) (fun c _ W => c = .ret ∧ Px w W0.heap.size W ∧ badI (itsOf s))
    (fun _ _ _ i h => h.its i) (fun _ _ _ _ i h => ⟨h.1, h.2.1.its i, h.2.2⟩) ⟨t0, t1, ⟨_, [], rfl, t2, OwnC.nil _ _⟩, o0, by omega, Nat.le_refl _⟩
    (fun k x a' W => ∃ bx, W0.heap.size ≤ bx ∧ Bk W bx 128 (xs x) ∧ Pi w W0.heap.size (itsOf s) k W ∧
      a' = { tmps := #[.string (B s), undef, .pointer (some ⟨w.heap.size, 0, none⟩), .pointer (some ⟨w.heap.size + 1, 0, none⟩), .pointer (some ⟨w.heap.size + 1 + 1, 0, none⟩), .pointer (some ⟨bx, 0, none⟩), .int .i64 (xe x), .string (B s), .func (.func 109) #[] #[.pointer (some ⟨w.heap.size + 1 + 1 + 1, 0, none⟩)], .agg (xs x), .int .i64 (xe x), undef, undef, undef, undef, undef, undef, undef, undef, undef], defers := [] })
    ?ax ?assign ?body ?done ?stop
  case ax =>
    rintro k x a' W l o o' hl ho hc ⟨bx, hb, bX, hP, rfl⟩
    exact ⟨bx, hb, bX.puto ho hc, hP.its (.put _ hl ho hc), rfl⟩
  case assign =>
    intro l k x W K hx hP hK
    have hPz := hP.od.size
    have hPs := hP.its (Its.of_old (old_alloc W (.cells (xs x) 128)))
    have hge : W0.heap.size ≤ W.heap.size := hP.sz
    cases x with
    | none =>
      dsimp only [encE]
      gi_wp2
      exact hK _ _ ((Bod.re _ _ _).al _) ⟨W.heap.size, hge, new_bk _ _ _, hPs, rfl⟩
    | some c =>
      dsimp only [encE]
      gi_wp2
      exact hK _ _ ((Bod.re _ _ _).al _) ⟨W.heap.size, hge, new_bk _ _ _, hPs, rfl⟩
  case body =>
    rintro l k x a' W hx ⟨bx, hb, bX, hP, rfl⟩
    have hgw := hP.gw
    clear hsz t0 t1 t2 t3 o0
    cases x with
    | none =>
      have c0 := hP.r0.cell 0
      have f0 := hP.r0.fr 0
      have c1 := hP.r1.cell 0
      have f1 := hP.r1.fr 0
      have hal : badI (itsOf s) := by unfold badI; rw [List.all_eq_false]; exact ⟨none, List.mem_of_getElem? hx, by simp⟩
      dsimp only [xs, xe]
      gi_wp2
      exact ⟨((Bod.re _ _ _).st (by omega) _ _).st (by omega) _ _, rfl, ⟨(hP.r0.set_ 0 _).far (by simp) _, (hP.r1.far (by simp) _).set_ 0 _, (hP.od.st (by simp) _).st (by simp) _, hgw⟩, hal⟩
    | some c =>
      obtain ⟨v, l0, hl0, hB2, hO⟩ := hP.ex
      have c2 := hB2.cell 0
      have f2 := hB2.fr 0
      have hkl := at_len hx
      have hL := itsOf_len s
      have hl1 := take_len (by omega) hl0
      have hlen : l0.length ≤ 1000 := by omega
      clear hl1
      have hsz2 := hP.sz
      obtain ⟨i0, hi, hz0, hz1, hz2⟩ := info_parts Tryz.infoCell
      obtain ⟨e0, e1, e2, e3, e4, e5, e6⟩ := Bk.seven bX
      dsimp only [xs, xe]
      gi_wp2_with (gi_at_builtin; refine wpListIn_append_own _ rfl (.tmp 14) (.tmp 17) 22 rfl W0.heap.size 34 i0 (.agg zeroCell) 6 72 Tryz.underlying22 hi hz0 hz1 hz2 rfl (by decide) v l0.length (flat l0) rfl (hO.old (old_alloc _ _)) ⟨W.heap.size, 0, none⟩ 1 1 (cells c).toList rfl (by simp) (World.news_of_block (new_bk _ _ _)) (by simp [Value.oneCell']) (by unfold maxLen; omega) (by omega) (by simp; omega) ?_; intro v' w1 hown' hgrow _; obtain ⟨g', cap', rfl⟩ := ownsRow_succ hown'; have B2 := (hB2.alloc _).grown hgrow (hO.not (by omega)); have c3 := B2.cell 0; have f3 := B2.fr 0)
      refine ⟨(((Bod.re _ _ _).al _).grown (hO.old (old_alloc _ _)) rfl hgrow).st (by omega) _ _, ?_⟩
      have hd : Below W0.heap.size W w1 := ((Below.refl _ _).alloc hsz2 _).trans ((Below.refl _ _).grown hgrow (by simp; omega) (fun j e => (World.ownsRow.lt hO j e).1))
      refine ⟨(hP.r0.below hd (by omega)).far (by simp; omega) _, (hP.r1.below hd (by omega)).far (by simp) _, ⟨_, l0 ++ [c], take_more hx hl0, B2.set_ 0 _, ?_⟩, Old.st (hP.od.trans (hd.mono (by omega))) (by simp; omega) _, hgw, by have := hd.size; simp [World.setCell]; omega⟩
      refine OwnC.far ?_ (by omega) 0 _
      unfold OwnC
      rw [flat_snoc, List.length_append]
      exact hown'
  case done =>
    rintro D W hD hP hK
    obtain ⟨v, l0, hl0, hB2, hO⟩ := hP.ex
    rw [List.take_length] at hl0
    have hgw := hP.gw
    clear hsz t0 t1 t2 t3 o0
    obtain ⟨A1, n1, k1, rfl⟩ := hO.form
    have c0 := hP.r0.cell 0
    have f0 := hP.r0.fr 0
    have c1 := hP.r1.cell 0
    have f1 := hP.r1.fr 0
    have c2 := hB2.cell 0
    have hk2 : ((W.setCell ⟨w.heap.size, 0, none⟩ (.slice A1 n1 k1)).setCell ⟨w.heap.size + 1, 0, none⟩ (.int .i64 0)).heap[D]? = some (.deferred (some [])) := by
      rw [Below.heap_setCell _ _ _ _ (by simp; omega), Below.heap_setCell _ _ _ _ (by simp; omega)]; exact hK
    have r0 : Bk ((W.setCell ⟨w.heap.size, 0, none⟩ (.slice A1 n1 k1)).setCell ⟨w.heap.size + 1, 0, none⟩ (.int .i64 0)) w.heap.size 22 #[.slice A1 n1 k1] := (hP.r0.set_ 0 _).far (by simp) _
    have r1 : Bk ((W.setCell ⟨w.heap.size, 0, none⟩ (.slice A1 n1 k1)).setCell ⟨w.heap.size + 1, 0, none⟩ (.int .i64 0)) (w.heap.size + 1) 26 #[.int .i64 0] := (hP.r1.far (by simp) _).set_ 0 _
    have r2 : Old w ((W.setCell ⟨w.heap.size, 0, none⟩ (.slice A1 n1 k1)).setCell ⟨w.heap.size + 1, 0, none⟩ (.int .i64 0)) := (hP.od.st (by simp) _).st (by simp) _
    have r3 : OwnC ((W.setCell ⟨w.heap.size, 0, none⟩ (.slice A1 n1 k1)).setCell ⟨w.heap.size + 1, 0, none⟩ (.int .i64 0)) W0.heap.size (.slice A1 n1 k1) l0 := (hO.far (by omega) _ _).far (by omega) _ _
    have hpo : parseO s = some l0 := by unfold parseO; rw [hl0, if_pos (by simp)]; simp
    gi_wp2
    generalize (W.setCell ⟨w.heap.size, 0, none⟩ (.slice A1 n1 k1)).setCell ⟨w.heap.size + 1, 0, none⟩ (.int .i64 0) = W2 at *
    refine ⟨by simp, .inl ⟨_, _, rfl, run_takeDeferred hk2, ?_⟩⟩
    have i2 : Its itsT W0.heap.size W2 (W2.putObj D (.deferred none)) := .put _ hD hk2 rfl
    have z0 := (r0.its i2 (by omega)).cell 0
    have z1 := (r1.its i2 (by omega)).cell 0
    simp only [List.getElem?_toArray, List.getElem?_cons_zero] at z0 z1
    generalize W2.putObj D (.deferred none) = W3 at *
    refine ⟨.tuple #[.slice A1 n1 k1, .int .i64 0], by simp [results, Tryz.results66, go_sem, z0, z1], .slice A1 n1 k1, by unfold parseE; rw [hpo], ?_, r2.its i2 (by omega)⟩
    rw [hpo]
    exact ⟨_, r3.its i2⟩
  case stop =>
    rintro D c k W hD hk ⟨rfl, hP, hb⟩ hK
    have hgw := hP.gw
    clear hsz t0 t1 t2 t3 o0
    have hpo : parseO s = none := by unfold parseO; rw [show (itsOf s).all Option.isSome = false from hb]; rfl
    gi_wp2
    refine ⟨by simp, .inl ⟨_, _, rfl, run_takeDeferred hK, ?_⟩⟩
    have i2 : Its itsT W0.heap.size W (W.putObj D (.deferred none)) := .put _ hD hK rfl
    have z0 := (hP.r0.its i2 (by omega)).cell 0
    have z1 := (hP.r1.its i2 (by omega)).cell 0
    simp only [List.getElem?_toArray, List.getElem?_cons_zero] at z0 z1
    have o2 := hP.od.its i2 (by omega)
    generalize W.putObj D (.deferred none) = W3 at *
    refine ⟨.tuple #[.slice none 0 0, .int .i64 50], by simp [results, Tryz.results66, go_sem, z0, z1], .slice none 0 0, by unfold parseE; rw [hpo], ?_, o2⟩
    rw [hpo]
    exact ⟨0, OwnC.nil _ _⟩

theorem parse_any (s : List UInt8) (hs : s.length ≤ 500000) (w : World) :
    Calls Tryz.prog 66 #[.string (B s)] w fun e W' => ∃ v, e = .returned (.tuple #[v, .int .i64 (parseE s)]) ∧ (∃ base, OwnC W' base v ((parseO s).getD [])) ∧ Old w W' :=
  (callsIn_wide (n := 3)).1 (parse_in 3 (by omega) s hs w)
end Go.Proofs.YtlmlopdakbbbjaaGreatDoor
