/-
  Seek of the code. Condition: the text has at most 500000 bytes.
-/
import Derived.Test.YtdlendmbdikflaaPrs
namespace Go.Proofs.Ytdlendmbdikflaa
open Go.RowKit Go.Shelf

attribute [local go_sem] Oper.semAt_some

/-- How many of the cells have a key below. -/
def seekN (l : List Cel) (q : List UInt8) : Nat := (l.filter fun c => Op.bytesLess (key c) q).length
theorem seekN_snoc (l : List Cel) (c : Cel) (q : List UInt8) : seekN (l ++ [c]) q = seekN l q + (if Op.bytesLess (key c) q = true then 1 else 0) := by
  unfold seekN
  rw [List.filter_append, List.length_append]
  cases h : Op.bytesLess (key c) q <;> simp [h]
theorem seekN_le (l : List Cel) (q : List UInt8) : seekN l q ≤ l.length := List.length_filter_le _ _

/-- Seek between two rounds. -/
structure Ki (w : World) (g : Nat) (L : List (Option Cel)) (q : List UInt8) (k : Nat) (W : World) : Prop where
  kb : Bk W w.heap.size 9 #[.string (B q)]
  r0 : Bk W (w.heap.size + 1) 3 #[.int .i64 0]
  r1 : Bk W (w.heap.size + 1 + 1) 25 #[.int .i64 0]
  ex : ∃ l, L.take k = l.map some ∧ Bk W (w.heap.size + 1 + 1 + 1) 3 #[.int .i64 (seekN l q : Nat)]
  od : Old w W
  gw : w.heap.size + 3 < g
  sz : g ≤ W.heap.size
theorem Ki.its {w A Z : World} {g : Nat} {L : List (Option Cel)} {q : List UInt8} {k : Nat} (h : Ki w g L q k A) (i : Its itsT g A Z) : Ki w g L q k Z := by
  obtain ⟨l, hl, hb⟩ := h.ex
  have hg := h.gw
  exact ⟨h.kb.its i (by omega), h.r0.its i (by omega), h.r1.its i (by omega), ⟨l, hl, hb.its i (by omega)⟩, h.od.its i (by omega), hg, Nat.le_trans h.sz i.size⟩
/-- Seek behind what is wrong. -/
structure Kx (w : World) (g : Nat) (W : World) : Prop where
  r0 : Bk W (w.heap.size + 1) 3 #[.int .i64 0]
  r1 : Bk W (w.heap.size + 1 + 1) 25 #[.int .i64 50]
  od : Old w W
  gw : w.heap.size + 3 < g
theorem Kx.its {w A Z : World} {g : Nat} (h : Kx w g A) (i : Its itsT g A Z) : Kx w g Z := by
  have hg := h.gw
  exact ⟨h.r0.its i (by omega), h.r1.its i (by omega), h.od.its i (by omega), hg⟩

def seekV (s q : List UInt8) : Value := match parseO s with
  | some l => .tuple #[.int .i64 (seekN l q : Nat), .int .i64 0]
  | none => .tuple #[.int .i64 0, .int .i64 50]

set_option maxRecDepth 100000 in
set_option maxHeartbeats 4000000 in
theorem seek_in (n : Nat) (hn : 3 ≤ n) (s q : List UInt8) (hs : s.length ≤ 500000) (w : World) :
    CallsIn Fence.wide n Try.prog 18 #[.string (B s), .string (B q)] w fun e W' => e = .returned (seekV s q) ∧ Old w W' := by
  have h1 : 1 ≤ n := by omega
  refine callsIn_of_wp_marks Try.func18 rfl trivial ?_ rfl
  simp only [Try.ntmps18, List.size_toArray, List.length_cons, List.length_nil, Nat.reduceAdd, Nat.reduceSub, Array.replicate_succ, Array.replicate_zero, List.push_toArray, List.append_toArray, List.nil_append, List.cons_append]
  gi_wp2_with (refine ⟨trivial, ?_⟩; gi_at_call 29; refine (entries_in (n - 1) s _).mono ?_; rintro e w' ⟨rfl, rfl⟩)
  obtain ⟨w1, e1⟩ : ∃ w1, w1 = w.alloc (.cells #[.string (B q)] 9) := ⟨_, rfl⟩
  obtain ⟨w2, e2⟩ : ∃ w2, w2 = w1.alloc (.cells #[.int .i64 0] 3) := ⟨_, rfl⟩
  obtain ⟨w3, e3⟩ : ∃ w3, w3 = w2.alloc (.cells #[.int .i64 0] 25) := ⟨_, rfl⟩
  obtain ⟨w4, e4⟩ : ∃ w4, w4 = w3.alloc (.cells #[.int .i64 0] 3) := ⟨_, rfl⟩
  obtain ⟨W0, e5⟩ : ∃ W0, W0 = w4.alloc (.cells #[.string (B s)] 9) := ⟨_, rfl⟩
  rw [← e1, ← e2, ← e3, ← e4, ← e5]
  have z1 : w1.heap.size = w.heap.size + 1 := by rw [e1]; simp
  have z2 : w2.heap.size = w.heap.size + 1 + 1 := by rw [e2]; simp [z1]
  have z3 : w3.heap.size = w.heap.size + 1 + 1 + 1 := by rw [e3]; simp [z2]
  have z4 : w4.heap.size = w.heap.size + 1 + 1 + 1 + 1 := by rw [e4]; simp [z3]
  have z5 : W0.heap.size = w.heap.size + 1 + 1 + 1 + 1 + 1 := by rw [e5]; simp [z4]
  have t0 : Bk w1 w.heap.size 9 #[.string (B q)] := by rw [e1]; exact new_bk _ _ _
  have t1 : Bk w2 (w.heap.size + 1) 3 #[.int .i64 0] := by rw [e2, ← z1]; exact new_bk _ _ _
  have t2 : Bk w3 (w.heap.size + 1 + 1) 25 #[.int .i64 0] := by rw [e3, ← z2]; exact new_bk _ _ _
  have t3 : Bk w4 (w.heap.size + 1 + 1 + 1) 3 #[.int .i64 0] := by rw [e4, ← z3]; exact new_bk _ _ _
  have t4 : Bk W0 (w.heap.size + 1 + 1 + 1 + 1) 9 #[.string (B s)] := by rw [e5, ← z4]; exact new_bk _ _ _
  have o1 : Old w w1 := by rw [e1]; exact old_alloc _ _
  have o2 : Old w1 w2 := by rw [e2]; exact old_alloc _ _
  have o3 : Old w2 w3 := by rw [e3]; exact old_alloc _ _
  have o4 : Old w3 w4 := by rw [e4]; exact old_alloc _ _
  have o5 : Old w4 W0 := by rw [e5]; exact old_alloc _ _
  have h0 : Ki w W0.heap.size (itsOf s) q 0 W0 := ⟨(((t0.old o2).old o3).old o4).old o5, ((t1.old o3).old o4).old o5, (t2.old o4).old o5, ⟨[], rfl, t3.old o5⟩, (((o1.tr o2).tr o3).tr o4).tr o5, by omega, Nat.le_refl _⟩
  clear t0 t1 t2 t3 o1 o2 o3 o4 o5 e1 e2 e3 e4 e5 z1 z2 z3 z4 z5
  refine range_its (encs := encE) (T := itsT) (L := itsOf s) rfl h1 (gf := 41) (lb := #[.pointer (some ⟨w.heap.size + 1 + 1 + 1 + 1, 0, none⟩)]) rfl trivial (enters_of Try.func41 (by kernel_rfl) rfl)
    (entries_tells (n - 1) (by omega) _ s hs W0 (t4.cell 0)) (fun x => by cases x <;> rfl)
    (Ki w W0.heap.size (itsOf s) q) (fun c _ W => c = .ret ∧ Kx w W0.heap.size W ∧ badI (itsOf s))
    (fun _ _ _ i h => h.its i) (fun _ _ _ _ i h => ⟨h.1, h.2.1.its i, h.2.2⟩) h0
    (fun k x a' W => ∃ bx, W0.heap.size ≤ bx ∧ Bk W bx 54 (xs x) ∧ Ki w W0.heap.size (itsOf s) q k W ∧
      a' = { tmps := #[.string (B s), .string (B q), undef, .pointer (some ⟨w.heap.size, 0, none⟩), .pointer (some ⟨w.heap.size + 1, 0, none⟩), .pointer (some ⟨w.heap.size + 1 + 1, 0, none⟩), .pointer (some ⟨w.heap.size + 1 + 1 + 1, 0, none⟩), .pointer (some ⟨bx, 0, none⟩), .int .i64 (xe x), .string (B s), .func (.func 41) #[] #[.pointer (some ⟨w.heap.size + 1 + 1 + 1 + 1, 0, none⟩)], .agg (xs x), .int .i64 (xe x), undef, undef, undef, undef, undef, undef, undef, undef, undef, undef], defers := [] })
    ?ax ?assign ?body ?done ?stop
  case ax =>
    rintro k x a' W l o o' hl ho hc ⟨bx, hb, bX, hP, rfl⟩
    exact ⟨bx, hb, bX.puto ho hc, hP.its (.put _ hl ho hc), rfl⟩
  case assign =>
    intro l k x W K hx hP hK
    have hPs := hP.its (Its.of_old (old_alloc W (.cells (xs x) 54)))
    have hge : W0.heap.size ≤ W.heap.size := hP.sz
    cases x with
    | none =>
      dsimp only [encE]
      gi_wp2
      exact hK _ _ ((Bod.re _ _ _).al _) ⟨W.heap.size, hge, new_bk _ _ _, hPs, rfl⟩
    | some c =>
      dsimp only [encE]
      gi_wp2
      exact hK _ _ ((Bod.re _ _ _).al _) ⟨W.heap.size, hge, new_bk _ _ _, hPs, rfl⟩
  case body =>
    rintro l k x a' W hx ⟨bx, hb, bX, hP, rfl⟩
    have hgw := hP.gw
    cases x with
    | none =>
      have c0 := hP.r0.cell 0
      have f0 := hP.r0.fr 0
      have c1 := hP.r1.cell 0
      have f1 := hP.r1.fr 0
      have hal : badI (itsOf s) := by unfold badI; rw [List.all_eq_false]; exact ⟨none, List.mem_of_getElem? hx, by simp⟩
      dsimp only [xs, xe]
      gi_wp2
      exact ⟨((Bod.re _ _ _).st (by omega) _ _).st (by omega) _ _, rfl, ⟨(hP.r0.set_ 0 _).far (by simp) _, (hP.r1.far (by simp) _).set_ 0 _, (hP.od.st (by first | (simp; done) | (simp; omega)) _).st (by first | (simp; done) | (simp; omega)) _, hgw⟩, hal⟩
    | some c =>
      obtain ⟨l0, hl0, hB2⟩ := hP.ex
      have c2 := hB2.cell 0
      have f2 := hB2.fr 0
      have ck := hP.kb.cell 0
      have hkl := at_len hx
      have hL := itsOf_len s
      have hl1 := take_len (by omega) hl0
      have hsn := seekN_le l0 q
      have hsm : seekN l0 q ≤ 1000 := by omega
      have HS := Lib.hid (seekN_snoc l0 c q)
      have HT := Lib.hid (take_more hx hl0)
      clear hl1 hsn hl0 hkl hL
      obtain ⟨e0, e1, e2, e3, e4, e5, e6⟩ := Bk.seven bX
      cases hbl : Op.bytesLess (key c) q with
      | true =>
        dsimp only [xs, xe]
        gi_wp2
        have e9 : ((seekN l0 q : Nat) : Int) + 1 = ((seekN (l0 ++ [c]) q : Nat) : Int) := by rw [HS.out, if_pos hbl]; omega
        rw [e9]
        exact ⟨(Bod.re _ _ _).st (by omega) _ _, hP.kb.far (by first | (simp; done) | (simp; omega)) _, hP.r0.far (by first | (simp; done) | (simp; omega)) _, hP.r1.far (by simp) _, ⟨l0 ++ [c], HT.out, hB2.set_ 0 _⟩, hP.od.st (by simp; omega) _, hgw, by have := hP.sz; simpa [World.setCell] using this⟩
      | false =>
        dsimp only [xs, xe]
        gi_wp2
        have e9 : seekN (l0 ++ [c]) q = seekN l0 q := by rw [HS.out, hbl]; simp
        exact ⟨Bod.re _ _ _, hP.kb, hP.r0, hP.r1, ⟨l0 ++ [c], HT.out, by rw [e9]; exact hB2⟩, hP.od, hgw, hP.sz⟩
  case done =>
    rintro D W hD hP hK
    obtain ⟨l0, hl0, hB2⟩ := hP.ex
    rw [List.take_length] at hl0
    have hgw := hP.gw
    have c0 := hP.r0.cell 0
    have f0 := hP.r0.fr 0
    have c1 := hP.r1.cell 0
    have f1 := hP.r1.fr 0
    have c2 := hB2.cell 0
    have hpo : parseO s = some l0 := by unfold parseO; rw [hl0, if_pos (by simp)]; simp
    have HV := Lib.hid (show seekV s q = .tuple #[.int .i64 (seekN l0 q : Nat), .int .i64 0] by unfold seekV; rw [hpo])
    clear hpo hl0
    generalize ((seekN l0 q : Nat) : Int) = m at *
    have hk2 : ((W.setCell ⟨w.heap.size + 1, 0, none⟩ (.int .i64 m)).setCell ⟨w.heap.size + 1 + 1, 0, none⟩ (.int .i64 0)).heap[D]? = some (.deferred (some [])) := by
      rw [Below.heap_setCell _ _ _ _ (by simp; omega), Below.heap_setCell _ _ _ _ (by simp; omega)]; exact hK
    have r0 : Bk ((W.setCell ⟨w.heap.size + 1, 0, none⟩ (.int .i64 m)).setCell ⟨w.heap.size + 1 + 1, 0, none⟩ (.int .i64 0)) (w.heap.size + 1) 3 #[.int .i64 m] := (hP.r0.set_ 0 _).far (by simp) _
    have r1 : Bk ((W.setCell ⟨w.heap.size + 1, 0, none⟩ (.int .i64 m)).setCell ⟨w.heap.size + 1 + 1, 0, none⟩ (.int .i64 0)) (w.heap.size + 1 + 1) 25 #[.int .i64 0] := (hP.r1.far (by simp) _).set_ 0 _
    have r2 : Old w ((W.setCell ⟨w.heap.size + 1, 0, none⟩ (.int .i64 m)).setCell ⟨w.heap.size + 1 + 1, 0, none⟩ (.int .i64 0)) := (hP.od.st (by first | (simp; done) | (simp; omega)) _).st (by first | (simp; done) | (simp; omega)) _
    gi_wp2
    generalize (W.setCell ⟨w.heap.size + 1, 0, none⟩ (.int .i64 m)).setCell ⟨w.heap.size + 1 + 1, 0, none⟩ (.int .i64 0) = W2 at *
    refine ⟨by simp, .inl ⟨_, _, rfl, run_takeDeferred hk2, ?_⟩⟩
    have i2 : Its itsT W0.heap.size W2 (W2.putObj D (.deferred none)) := .put _ hD hk2 rfl
    have z0 := (r0.its i2 (by omega)).cell 0
    have z1 := (r1.its i2 (by omega)).cell 0
    simp only [List.getElem?_toArray, List.getElem?_cons_zero] at z0 z1
    have o2 := r2.its i2 (by omega)
    generalize W2.putObj D (.deferred none) = W3 at *
    exact ⟨.tuple #[.int .i64 m, .int .i64 0], by simp [results, Try.results18, go_sem, z0, z1], by rw [HV.out], o2⟩
  case stop =>
    rintro D c k W hD hk ⟨rfl, hP, hb⟩ hK
    have hgw := hP.gw
    have hpo : parseO s = none := by unfold parseO; rw [show (itsOf s).all Option.isSome = false from hb]; rfl
    have HV := Lib.hid (show seekV s q = .tuple #[.int .i64 0, .int .i64 50] by unfold seekV; rw [hpo])
    gi_wp2
    refine ⟨by simp, .inl ⟨_, _, rfl, run_takeDeferred hK, ?_⟩⟩
    have i2 : Its itsT W0.heap.size W (W.putObj D (.deferred none)) := .put _ hD hK rfl
    have z0 := (hP.r0.its i2 (by omega)).cell 0
    have z1 := (hP.r1.its i2 (by omega)).cell 0
    simp only [List.getElem?_toArray, List.getElem?_cons_zero] at z0 z1
    have o2 := hP.od.its i2 (by omega)
    generalize W.putObj D (.deferred none) = W3 at *
    exact ⟨.tuple #[.int .i64 0, .int .i64 50], by simp [results, Try.results18, go_sem, z0, z1], by rw [HV.out], o2⟩

theorem seek_any (s q : List UInt8) (hs : s.length ≤ 500000) (w : World) :
    Calls Try.prog 18 #[.string (B s), .string (B q)] w fun e W' => e = .returned (seekV s q) ∧ Old w W' :=
  (callsIn_wide (n := 3)).1 (seek_in 3 (by omega) s q hs w)
end Go.Proofs.Ytdlendmbdikflaa
