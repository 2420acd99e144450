/-
  The iterator over the rows of a list of cells: what it tells. Conditions: lengths as written; the rows rise.
-/
import Derived.Test.YtohokmfbcehkgaaCMth
import Derived.Stop.RegionWithIn
namespace Go.Proofs.Ytohokmfbcehkgaa
open Go.RowKit Go.Shelf

attribute [local go_sem] Oper.semAt_some

theorem cell_heap {w w' : World} {b : Nat} (h : w'.heap[b]? = w.heap[b]?) (o : Nat) : w'.cell? ⟨b, o, none⟩ = w.cell? ⟨b, o, none⟩ := by simp [World.cell?, h]
theorem heap_of_cell {w : World} {b o : Nat} {v : Value} (h : w.cell? ⟨b, o, none⟩ = some v) : ∃ cs t fz, w.heap[b]? = some (.cells cs t fz) := by
  unfold World.cell? at h
  split at h
  · rename_i c t fz hh
    exact ⟨c, t, fz, hh⟩
  · cases h
theorem At6.blk {w w' : World} {b o : Nat} {x : Cel} (h : At6 w b o x) (k : w'.heap[b]? = w.heap[b]?) : At6 w' b o x := by
  obtain ⟨a0, a1, a2, a3, a4, a5⟩ := h
  constructor <;> (rw [cell_heap k]; assumption)
theorem CelsAt.blk {w w' : World} {b off : Nat} {l : List Cel} (h : CelsAt w b off l) (k : w'.heap[b]? = w.heap[b]?) : CelsAt w' b off l := fun i x hx => (h i x hx).blk k

/-- The iterator's blocks: the cells' own, the box of what is left, boxes of texts. -/
def rowT (g : Nat) (ob : Option Nat) (i : Nat) (t : TypeId) : Bool := ob == some i || (i == g + 2 && t == 22) || t == 9
/-- A row, as a name and a slice. -/
def encG (b0 off0 cap0 : Nat) (x : Grp) : Array Value := #[.string (B x.row), .slice (some ⟨b0, off0 + x.s * 6, none⟩) x.cs.length (cap0 - x.s)]

set_option maxHeartbeats 2000000 in
theorem rows2_any (b off cap : Nat) (l : List Cel) (r : List UInt8) (w : World) (hS : CelsAt w b off l) (hcap : l.length ≤ 100000) (gb gr : Nat) (hb : w.cell? ⟨gb, 0, none⟩ = some (.slice (some ⟨b, off, none⟩) l.length cap)) (hr : w.cell? ⟨gr, 0, none⟩ = some (.string (B r))) (i : Nat) (c : Cel) (hi : l[i]? = some c) :
    Calls Try.prog 34 #[.int .i64 (i : Int), .pointer (some ⟨gb, 0, none⟩), .pointer (some ⟨gr, 0, none⟩)] w fun e w' => e = .returned (.bool (!leT c.row r)) ∧ Old w w' := by
  have hx := (hS i c hi).a0
  have hlt := (List.getElem?_eq_some_iff.1 hi).1
  have hw0 : IntKind.i64.wrap (i : Int) = (i : Int) := by rw [IntKind.wrap_i64]; omega
  have hb1 : (0 : Int) ≤ (i : Int) := by omega
  have hb2 : (i : Int) < (l.length : Int) := by omega
  unfold leT
  clear hi hlt hS
  go_enter Try.func34, Try.ntmps34
  go_wp2_with fail
  go_quiet (fail)
  go_wp2
  go_ret
  exact ⟨ret_bool (by rw [Bool.not_or]), by first | exact Old.re _ | exact (Old.re _).dr | exact (Old.re _).dn _⟩

theorem Ste.set {T : Nat → TypeId → Bool} {g b : Nat} {W : World} {t : TypeId} {cs : Array Value} (hb : Bk W b t cs) (hg : g ≤ b) (hT : T b t = true) (o : Nat) (u : Value) : Ste T g W (W.setCell ⟨b, o, none⟩ u) := by
  refine ⟨⟨rfl, rfl, rfl, by simp [World.setCell], fun i ob ho hx => ?_⟩, fun i ob ho hc => ?_⟩
  · refine (Below.heap_setCell W ⟨b, o, none⟩ u i ?_).trans ho
    show i ≠ b
    rintro rfl
    rw [show W.heap[i]? = _ from hb] at ho
    injection ho with ho
    subst ho
    rcases hx with hx | hx
    · omega
    · rw [mine, hT] at hx; cases hx.2
  · refine (Below.heap_setCell W ⟨b, o, none⟩ u i ?_).trans ho
    show i ≠ b
    rintro rfl
    rw [show W.heap[i]? = _ from hb] at ho
    injection ho with ho
    subst ho
    cases hc

set_option maxRecDepth 100000 in
set_option maxHeartbeats 4000000 in
theorem rows1_in (n : Nat) (hn : 1 ≤ n) (l bl g b0 off0 cap0 : Nat) (lst : List Cel) (A : Option Addr) (hN : lst.length ≤ 100000) (hc : lst.length ≤ cap0) (hA : lst ≠ [] → A = some ⟨b0, off0, none⟩) (hup : RowsUp lst) (hb0 : b0 < g) (ob : Option Nat) (hob : lst ≠ [] → ob = some b0) (J Jx : Nat → World → Prop)
    (W : World) (hsz : W.heap.size = g + 2) (hJS : ∀ k A Z, Ste (rowT g ob) g A Z → J k A → J k Z)
    (hY : ∀ k x W1, (grps 0 lst)[k]? = some x → g + 3 ≤ W1.heap.size → J k W1 → YieldAt Fence.wide (n - 1) Try.prog l (encG b0 off0 cap0 x) W1 fun e Z => (e = .returned (.bool true) ∧ J (k + 1) Z ∧ Kep (rowT g ob) W1 Z) ∨ (e = .returned (.bool false) ∧ Jx (k + 1) Z))
    (hbl : W.cell? ⟨bl, 0, none⟩ = some (.slice A lst.length cap0)) (hcs : lst ≠ [] → CelsAt W b0 off0 lst) (h0 : J 0 W) :
    CallsIn Fence.wide n Try.prog 32 #[.func (.yield l) #[] #[], .pointer (some ⟨bl, 0, none⟩)] W fun e Z => (∃ v, e = .returned v) ∧ (J (grps 0 lst).length Z ∨ ∃ k, k ≤ (grps 0 lst).length ∧ Jx k Z) := by
  refine callsIn_of_wp Try.func32 rfl trivial ?_ rfl
  simp only [Try.ntmps32, List.size_toArray, List.length_cons, List.length_nil, Nat.reduceAdd, Nat.reduceSub, Array.replicate_succ, Array.replicate_zero, List.push_toArray, List.append_toArray, List.nil_append, List.cons_append]
  have HI := Lib.hid (show ∀ x ∈ grps 0 lst, GrpIn lst x from grps_in 0 lst lst rfl (Nat.zero_le _))
  have HU := Lib.hid hup
  clear hup
  have k0 := new_bk W 22 #[.slice A lst.length cap0]
  have o0 : Old W (W.alloc (.cells #[.slice A lst.length cap0] 22)) := old_alloc _ _
  have hJ0 := hJS 0 _ _ (Ste.of_old o0) h0
  have hcs0 : lst ≠ [] → CelsAt (W.alloc (.cells #[.slice A lst.length cap0] 22)) b0 off0 lst := fun h => (hcs h).old o0
  have hsz0 : g + 3 ≤ (W.alloc (.cells #[.slice A lst.length cap0] 22)).heap.size := by simp; omega
  clear hcs h0 o0
  gi_wp2_with fail
  generalize W.alloc (.cells #[.slice A lst.length cap0] 22) = W1 at *
  rw [hsz] at *
  gi_loopw [] (fun wr => ∃ (k s : Nat) (A' : Option Addr) (c' : Nat), s ≤ lst.length ∧ k ≤ (grps 0 lst).length ∧ Hid ((grps 0 lst).drop k = grps s (lst.drop s)) ∧ (s < lst.length → A' = some ⟨b0, off0 + s * 6, none⟩ ∧ c' = cap0 - s) ∧ Bk wr (g + 2) 22 #[.slice A' (lst.length - s) c'] ∧ g + 3 ≤ wr.heap.size ∧ Hid (lst ≠ [] → CelsAt wr b0 off0 lst) ∧ Hid (J k wr))
    (fun wr => match wr.cell? ⟨g + 2, 0, none⟩ with | some (.slice _ q _) => q | _ => 0)
  case atStart =>
    refine ⟨0, 0, A, cap0, Nat.zero_le _, Nat.zero_le _, Lib.hid rfl, fun h => ⟨by rw [hA (by rintro rfl; simp at h)]; simp, by simp⟩, k0, hsz0, Lib.hid hcs0, Lib.hid hJ0⟩
  case round =>
    obtain ⟨k, s, A', c', hs, hk, HD, hlt, hb, hsr, HC, HJ⟩ := hrel
    clear hJ0 k0 hcs0 hsz0
    have cb := hb.cell 0
    simp only [List.getElem?_toArray, List.getElem?_cons_zero] at cb
    by_cases h1 : s < lst.length
    · obtain ⟨rfl, rfl⟩ := hlt h1
      obtain ⟨c, t, HT⟩ : ∃ c t, Hid (lst.drop s = c :: t) := by
        cases hd : lst.drop s with
        | nil => have := congrArg List.length hd; simp at this; omega
        | cons c t => exact ⟨c, t, Lib.hid rfl⟩
      have hlen : t.length + 1 = lst.length - s := by have := congrArg List.length HT.out; simp at this; omega
      have HCS := Lib.hid (show CelsAt wr b0 (off0 + s * 6) (c :: t) by rw [← HT.out]; exact (HC.out (by rintro rfl; simp at h1)).drop_ s)
      have hx := (HCS.out 0 c rfl).a0
      rw [Nat.zero_mul, Nat.add_zero] at hx
      have i1 : (0 : Int) < ((lst.length - s : Nat) : Int) := by omega
      have oA : Old wr (wr.alloc (.cells #[.string (B c.row)] 9)) := old_alloc _ _
      have cb2 := (hb.old oA).cell 0
      simp only [List.getElem?_toArray, List.getElem?_cons_zero] at cb2
      have HB0 := Lib.hid hb0
      have HMW := Lib.hid cb
      clear hlt hb0
      gi_wp2_with fail
      have hb2 := hb.old oA
      have hr2 := new_bk wr 9 #[.string (B c.row)]
      have HC2 := Lib.hid (HCS.out.old oA)
      have HC3 := Lib.hid (fun h => (HC.out h).old oA)
      have HJ2 := Lib.hid (hJS k _ _ (Ste.of_old oA) HJ.out)
      have hsr2 : g + 3 ≤ (wr.alloc (.cells #[.string (B c.row)] 9)).heap.size := Nat.le_trans hsr oA.size
      generalize wr.heap.size = gr at *
      generalize wr.alloc (.cells #[.string (B c.row)] 9) = w2 at *
      clear hx HCS HC HJ cb cb2 hb oA hsr
      have hlen2 : (c :: t).length = lst.length - s := by simpa using hlen
      rw [← hlen2]
      refine ⟨trivial, (callsIn_wide.2 (srch_any 34 (enters_of Try.func34 (by kernel_rfl) rfl) _ (c :: t).length (by omega) (fun i => !leT (((c :: t)[i]?.map (·.row)).getD []) c.row) w2 (fun i hi W3 o3 => ?_) (fun a b hab hbl h => ?_))).mono ?_⟩
      · have hxi := List.getElem?_eq_getElem hi
        have := rows2_any b0 (off0 + s * 6) (cap0 - s) (c :: t) c.row W3 (HC2.out.old o3) (by omega) (g + 2) gr (by rw [(hb2.old o3).cell, hlen2]; rfl) (by rw [(hr2.old o3).cell]; rfl) i _ hxi
        rw [hxi]
        exact this
      · have hU := HU.out.drop s
        rw [HT.out] at hU
        have ha := List.getElem?_eq_getElem (show a < (c :: t).length by omega)
        have hb := List.getElem?_eq_getElem hbl
        have e := hU a b _ _ hab ha hb
        rw [ha] at h
        rw [hb]
        simp only [Option.map_some, Option.getD_some, Bool.not_eq_true'] at *
        cases hcc : leT ((c :: t)[b]).row c.row with
        | false => rfl
        | true => rw [leT_trans e hcc] at h; cases h
      · rintro e w3 ⟨m, rfl, hm, hl1, hl2, o3⟩
        have HM := Lib.hid (show m = 1 + (t.takeWhile (sameR c.row)).length from by
          have hU := HU.out.drop s
          rw [HT.out] at hU
          refine grp_end hU hm (fun i x hi hx => ?_) (fun i x hi hx => ?_)
          · have := hl1 i hi
            rw [hx] at this
            simpa using this
          · have := hl2 i hi (List.getElem?_eq_some_iff.1 hx).1
            rw [hx] at this
            simpa using this)
        have hb3 := hb2.old o3
        have hr3 := hr2.old o3
        have HC4 := Lib.hid (fun h => (HC3.out h).old o3)
        have HJ3 := Lib.hid (hJS k _ _ (Ste.of_old o3) HJ2.out)
        have hsr3 := Nat.le_trans hsr2 o3.size
        have hm1 : 1 ≤ m := by have := HM.out; omega
        have hm2 : m ≤ lst.length - s := by omega
        have HX := Lib.hid (show (grps 0 lst)[k]? = some ⟨s, c.row, c :: t.takeWhile (sameR c.row)⟩ ∧ (grps 0 lst).drop (k + 1) = grps (s + m) (lst.drop (s + m)) ∧ (c :: t.takeWhile (sameR c.row)).length = m from by
          have h2 := HD.out
          rw [HT.out, grps_cons] at h2
          refine ⟨?_, ?_, by rw [HM.out]; simp; omega⟩
          · have h3 := congrArg (fun q => q[0]?) h2
            simpa using h3
          · have h3 := congrArg (fun q => q.drop 1) h2
            simp only [List.drop_drop, List.drop_succ_cons, List.drop_zero] at h3
            rw [h3, tw_drop, HM.out, ← Nat.add_assoc]
            congr 1
            rw [Nat.add_assoc, ← List.drop_drop, HT.out, Nat.add_comm 1, List.drop_succ_cons])
        clear hl1 hl2 hb2 hr2 HC2 HC3 HJ2 hsr2 o3 hm HM HT hlen hlen2
        gi_wp2_with fail
        have hb4 := hb3.drew
        have hr4 := hr3.drew
        have HC5 := Lib.hid (fun h => (HC4.out h).old ((Old.re w3).dr))
        have HJ4 := hJS k _ _ (Ste.of_old ((Old.re w3).dr)) HJ3.out
        obtain ⟨fn, tmps, assign, body, hy, hR⟩ := hY k _ w3.drew HX.out.1 (Nat.le_trans hsr3 ((Old.re w3).dr).size) HJ4
        dsimp only [encG] at hy
        rw [HX.out.2.2] at hy
        have hR2 : RoundIn Fence.wide (n - 1) Try.prog l fn tmps assign body w3.drew (fun e Z => ∃ b, e = .returned (.bool b) ∧ Hid ((b = true ∧ J (k + 1) Z ∧ Kep (rowT g ob) w3.drew Z) ∨ (b = false ∧ Jx (k + 1) Z))) := hR.mono (fun e Z h => by
          rcases h with ⟨rfl, h⟩ | ⟨rfl, h⟩
          · exact ⟨true, rfl, Lib.hid (.inl ⟨rfl, h⟩)⟩
          · exact ⟨false, rfl, Lib.hid (.inr ⟨rfl, h⟩)⟩)
        have cb := hb4.cell 0
        have cr := hr4.cell 0
        simp only [List.getElem?_toArray, List.getElem?_cons_zero] at cb cr
        have i2 : (m : Int) ≤ ((cap0 - s : Nat) : Int) := by omega
        have i3 : (0 : Int) ≤ (m : Int) := by omega
        clear hR HJ4 HJ3 hb3 hr3 HC4
        gi_region_with (refine hR2.mono ?_; rintro e W5 ⟨b, rfl, HE⟩)
        all_goals
          rcases HE.out with ⟨rfl, hJ5, hk5⟩ | ⟨rfl, hJx5⟩
          · have hb5 := hk5.2 _ _ hb4 (by simp [mine, rowT])
            have HC6 := Lib.hid (show lst ≠ [] → CelsAt W5 b0 off0 lst from fun h => by
              have hc5 := HC5.out h
              obtain ⟨x, hx0⟩ : ∃ x, lst[0]? = some x := by
                cases lst with
                | nil => exact absurd rfl h
                | cons x _ => exact ⟨x, rfl⟩
              obtain ⟨cs, ty, fz, ho⟩ := heap_of_cell (hc5 0 x hx0).a0
              exact hc5.blk ((hk5.2 _ _ ho (by simp [mine, rowT, hob h])).trans ho.symm))
            have hsr5 := Nat.le_trans (Nat.le_trans hsr3 ((Old.re w3).dr).size) hk5.1
            have cb := Bk.cell hb5 0
            have fb := Bk.fr hb5 0
            simp only [List.getElem?_toArray, List.getElem?_cons_zero] at cb
            have HS := Lib.hid fun (u : Value) => (⟨Ste.set (T := rowT g ob) (g := g) hb5 (by omega) (by simp [rowT]) 0 u, Bk.set_ hb5 0 u⟩ : Ste (rowT g ob) g W5 (W5.setCell ⟨g + 2, 0, none⟩ u) ∧ Bk (W5.setCell ⟨g + 2, 0, none⟩ u) (g + 2) 22 (#[Value.slice (some ⟨b0, off0 + s * 6, none⟩) (lst.length - s) (cap0 - s)].setIfInBounds 0 u))
            have HJ5 := Lib.hid hJ5
            have i4 : (m : Int) ≤ ((lst.length - s : Nat) : Int) := by omega
            clear hk5 hJ5 HE hy hR2 hb4 hr4 HC5 cr hb5
            gi_wp2
            have hkl := (List.getElem?_eq_some_iff.1 HX.out.1).1
            refine ⟨⟨k + 1, s + m, if cap0 - s = m then some ⟨b0, off0 + s * 6, none⟩ else some ⟨b0, off0 + s * 6 + m * 6, none⟩, cap0 - s - m, by omega, by omega, Lib.hid HX.out.2.1, fun h => ⟨by rw [if_neg (by omega)]; congr 2; omega, by omega⟩, ?_, ?_, Lib.hid fun h => (HC6.out h).blk (Below.heap_setCell W5 ⟨g + 2, 0, none⟩ _ b0 (by have := HB0.out; show b0 ≠ g + 2; omega)), Lib.hid (hJS _ _ _ (HS.out _).1 HJ5.out)⟩, ?_⟩
            · have hbk := (HS.out (Value.slice (if cap0 - s = m then some ⟨b0, off0 + s * 6, none⟩ else some ⟨b0, off0 + s * 6 + m * 6, none⟩) (lst.length - s - m) (cap0 - s - m))).2
              simp only [List.setIfInBounds_toArray, List.set_cons_zero] at hbk
              rw [show lst.length - (s + m) = lst.length - s - m by omega]
              exact hbk
            · simpa [World.setCell] using hsr5
            · have e1 := Bk.cell (HS.out (Value.slice (if cap0 - s = m then some ⟨b0, off0 + s * 6, none⟩ else some ⟨b0, off0 + s * 6 + m * 6, none⟩) (lst.length - s - m) (cap0 - s - m))).2 0
              simp only [List.setIfInBounds_toArray, List.set_cons_zero, List.getElem?_toArray, List.getElem?_cons_zero] at e1
              rw [e1, HMW.out]
              dsimp only
              omega
          · have HJx := Lib.hid hJx5
            clear hJx5 HE hy hR2
            gi_wp2
            first | refine bodyPost_ret (results_none rfl _ _ _) rfl ?_ | refine bodyPost_end (results_none rfl _ _ _) rfl ?_
            have hkl := (List.getElem?_eq_some_iff.1 HX.out.1).1
            exact ⟨⟨_, rfl⟩, .inr ⟨k + 1, by omega, HJx.out⟩⟩
    · obtain rfl : s = lst.length := by omega
      have HF := Lib.hid (show k = (grps 0 lst).length by
        have h2 := HD.out
        rw [List.drop_length, grps_nil] at h2
        have := List.drop_eq_nil_iff.1 h2
        omega)
      have i1 : ((lst.length - lst.length : Nat) : Int) = 0 := by omega
      have i2 : lst.length - lst.length = 0 := by omega
      clear hlt
      gi_wp2
      refine bodyPost_end (results_none rfl _ _ _) rfl ?_
      exact ⟨⟨_, rfl⟩, .inl (by rw [← HF.out]; exact HJ.out)⟩
/-- rows: the slice in a box, and the iterator over it. -/
theorem rows_in (n : Nat) (v : Value) (A : Option Addr) (k c : Nat) (hv : v = .slice A k c) (W : World) : CallsIn Fence.wide n Try.prog 25 #[v] W fun e w' => e = .returned (.func (.func 32) #[] #[.pointer (some ⟨W.heap.size, 0, none⟩)]) ∧ w' = W.alloc (.cells #[v] 22) := by
  subst hv
  refine callsIn_of_wp Try.func25 rfl trivial ?_ rfl
  simp only [Try.ntmps25, List.size_toArray, List.length_cons, List.length_nil, Nat.reduceAdd, Nat.reduceSub, Array.replicate_succ, Array.replicate_zero, List.push_toArray, List.append_toArray, List.nil_append, List.cons_append]
  gi_wp2
  go_ret
  exact ⟨rfl, rfl⟩
/-- What a range over rows tells. -/
theorem rows_tells (n : Nat) (hn : 1 ≤ n) (bl b0 off0 cap0 : Nat) (lst : List Cel) (A : Option Addr) (hN : lst.length ≤ 100000) (hc : lst.length ≤ cap0) (hA : lst ≠ [] → A = some ⟨b0, off0, none⟩) (hup : RowsUp lst) (w : World) (hb0 : b0 < w.heap.size) (ob : Option Nat) (hob : lst ≠ [] → ob = some b0)
    (hbl : Bk w bl 22 #[.slice A lst.length cap0]) (hcs : lst ≠ [] → CelsAt w b0 off0 lst) :
    Tells Fence.wide n Try.prog 32 #[.pointer (some ⟨bl, 0, none⟩)] (encG b0 off0 cap0) (rowT w.heap.size ob) 3 w.heap.size (grps 0 lst) w := by
  intro l J Jx W o hsz hJ hJx hY h0
  exact rows1_in n hn l bl w.heap.size b0 off0 cap0 lst A hN hc hA hup hb0 ob hob J Jx W hsz hJ hY ((hbl.old o).cell 0) (fun h => (hcs h).old o) h0
end Go.Proofs.Ytohokmfbcehkgaa
