/-
  has and Put of a table. Conditions: at most 1000000 cells.
-/
import Derived.Test.YthanenblcplbhaaMTab
namespace Go.Proofs.Ythanenblcplbhaa
set_option maxRecDepth 100000
open Go.RowKit Go.Shelf

attribute [local go_sem] Oper.semAt_some

/-- All cells but truth values stay. -/
def hasT (_ : Nat) (t : TypeId) : Bool := t != 4
theorem hasT_mine : TMine hasT := ⟨fun _ => rfl, fun _ => rfl, fun _ => rfl, fun _ => rfl⟩

set_option maxHeartbeats 4000000 in
theorem has_in (n : Nat) (tb : Nat) (t : BT) (c : Cel) (w : World) (h : Tbl w tb t) :
    CallsIn Fence.wide n Try.prog 24 #[.pointer (some ⟨tb, 0, none⟩), cv c] w fun e w' => e = .returned (.bool (t.ino.any fun d => decide (cmpC d c = 0))) ∧ Old w w' := by
  obtain ⟨N, hN⟩ : ∃ N : Nat, 9 ≤ N := ⟨9, Nat.le_refl _⟩
  refine CallsIn.any (m := N) ?_
  clear n
  obtain ⟨p, hb, ht⟩ := h.box
  have oA := (old_alloc w (.cells (cells c) 31)).al (.cells #[.bool false] 4)
  have kc : Bk ((w.alloc (.cells (cells c) 31)).alloc (.cells #[.bool false] 4)) w.heap.size 31 (cells c) := (new_bk w _ _).alloc _
  have kr := new_bk (w.alloc (.cells (cells c) 31)) 4 #[.bool false]
  rw [World.size_alloc] at kr
  have hsz : ((w.alloc (.cells (cells c) 31)).alloc (.cells #[.bool false] 4)).heap.size = w.heap.size + 2 := by simp
  have c0 : ((w.alloc (.cells (cells c) 31)).alloc (.cells #[.bool false] 4)).cell? ⟨tb, 0, none⟩ = some (.pointer p) := (hb.old oA).cell 0
  have ht2 := ht.old oA
  have HR := Lib.hid (rises_has h.up c)
  have HSZ := Lib.hid hsz
  clear ht hb h hsz
  refine callsIn_of_wp_marks Try.func24 rfl trivial ?_ rfl
  simp only [Try.ntmps24, List.size_toArray, List.length_cons, List.length_nil, Nat.reduceAdd, Nat.reduceSub, Array.replicate_succ, Array.replicate_zero, List.push_toArray, List.append_toArray, List.nil_append, List.cons_append]
  gi_wp2_with fail
  generalize (w.alloc (.cells (cells c) 31)).alloc (.cells #[.bool false] 4) = W0 at *
  refine ⟨trivial, fun h => (by cases h), (stretch_in p _ _ _ _).mono ?_⟩
  rintro e w1 ⟨rfl, hw1⟩
  have o1 : Old W0 w1 := hw1 ▸ (old_alloc _ _).al _
  have bn : Bk w1 W0.heap.size 45 #[.pointer p] := hw1 ▸ (new_bk W0 _ _).alloc _
  have bw : Bk w1 (W0.heap.size + 1) 54 #[.func (.func 41) #[] #[.pointer (some ⟨w.heap.size, 0, none⟩)]] := by
    have h := new_bk (W0.alloc (.cells #[.pointer p] 45)) 54 #[.func (.func 41) #[] #[.pointer (some ⟨w.heap.size, 0, none⟩)]]
    rw [World.size_alloc] at h
    exact hw1 ▸ h
  have kc1 := kc.old o1
  have kr1 := kr.old o1
  have hz1 : w.heap.size + 2 ≤ w1.heap.size := HSZ.out ▸ o1.size
  have o2 := oA.tr o1
  have HT := Lib.hid (stretch_any hasT hasT_mine (fun d => cmpC d c) 41 #[.pointer (some ⟨w.heap.size, 0, none⟩)] t p W0.heap.size (W0.heap.size + 1) w1 w1.heap.size bn bw (ht2.old o1) (where_has hasT c w.heap.size w1 kc1 rfl))
  rw [told_filter _ _ HR.out] at HT
  have HE := Lib.hid (show (t.ino.any fun d => decide (cmpC d c = 0)) = !(t.ino.filter fun d => decide (cmpC d c = 0)).isEmpty by
    rw [Bool.eq_iff_iff, List.any_eq_true]
    constructor
    · rintro ⟨x, hx, hp⟩
      have := (List.mem_filter (p := fun d => decide (cmpC d c = 0))).2 ⟨hx, hp⟩
      cases hl : t.ino.filter fun d => decide (cmpC d c = 0) with
      | nil => rw [hl] at this; cases this
      | cons a b => rfl
    · intro h
      cases hl : t.ino.filter fun d => decide (cmpC d c = 0) with
      | nil => rw [hl] at h; cases h
      | cons a b =>
        have := (List.mem_filter (p := fun d => decide (cmpC d c = 0))).1 (show a ∈ t.ino.filter fun d => decide (cmpC d c = 0) by rw [hl]; simp)
        exact ⟨a, this.1, this.2⟩)
  obtain ⟨M, hM⟩ : ∃ M, M = t.ino.filter fun d => decide (cmpC d c = 0) := ⟨_, rfl⟩
  rw [← hM] at HT HE
  clear hM hw1 bn bw kc kc1 kr ht2 o1 c0 HR oA
  gi_wp2_with fail
  refine range_tels (encs := encC) (T := hasT) (L := M) (show 1 ≤ N by omega) (gf := 50) (lb := #[.pointer (some ⟨W0.heap.size, 0, none⟩), .pointer (some ⟨W0.heap.size + 1, 0, none⟩)]) rfl (enters_of Try.func50 (by kernel_rfl) rfl) HT.out (fun _ => rfl)
    (fun k W => k = 0 ∧ Bk W (w.heap.size + 1) 4 #[.bool false] ∧ Old w W) (fun c' k W => c' = .ret ∧ 0 < k ∧ Bk W (w.heap.size + 1) 4 #[.bool true] ∧ Old w W)
    (fun _ _ _ i h => ⟨h.1, i.block _ _ h.2.1 (.inl (by omega)), its_old h.2.2 i (by omega)⟩) (fun _ _ _ _ i h => ⟨h.1, h.2.1, i.block _ _ h.2.2.1 (.inl (by omega)), its_old h.2.2.2 i (by omega)⟩)
    ⟨rfl, kr1, o2⟩
    (fun k x a' W => (k = 0 ∧ Bk W (w.heap.size + 1) 4 #[.bool false] ∧ Old w W) ∧ a' = { tmps := #[.pointer (some ⟨tb, 0, none⟩), cv c, undef, .pointer (some ⟨w.heap.size, 0, none⟩), .pointer (some ⟨w.heap.size + 1, 0, none⟩), .pointer (some ⟨tb, 0, none⟩), .pointer (some ⟨tb, 0, none⟩), .pointer (some ⟨tb, 0, none⟩), .pointer p, .func (.func 41) #[] #[.pointer (some ⟨w.heap.size, 0, none⟩)], .func (.func 50) #[] #[.pointer (some ⟨W0.heap.size, 0, none⟩), .pointer (some ⟨W0.heap.size + 1, 0, none⟩)], cv x], defers := [] })
    ?ax ?assign ?body ?done ?stop
  case ax =>
    rintro k x a' W l o o' hl ho hc ⟨h, h2⟩
    exact ⟨⟨h.1, (World.putObj_heap_other (by omega)).trans h.2.1, its_old (g := w1.heap.size) h.2.2 (.put (T := hasT) _ hl ho hc) (by omega)⟩, h2⟩
  case assign =>
    rintro l k x W K hx h3 hP hK
    dsimp only [encC]
    gi_wp2
    exact hK _ _ (.re _ _ _) ⟨hP, by kernel_rfl⟩
  case body =>
    rintro l' k x a' W hx ⟨⟨rfl, hb, ho⟩, rfl⟩
    have cb : W.cell? ⟨w.heap.size + 1, 0, none⟩ = some (.bool false) := hb.cell 0
    have fb := hb.fr 0
    have HB := Lib.hid hb
    clear hb
    gi_wp2
    have hs := HB.out.set_ 0 (.bool true)
    exact ⟨(Bod.re _ _ _).st HB.out rfl 0 _, rfl, Nat.succ_pos _, by simpa using hs, ho.st (p := ⟨w.heap.size + 1, 0, none⟩) (by simp) _⟩
  case done =>
    rintro D W hD ⟨hk, hb, ho⟩ hK
    have cb : W.cell? ⟨w.heap.size + 1, 0, none⟩ = some (.bool false) := hb.cell 0
    have fb := hb.fr 0
    have HB := Lib.hid hb
    have hne : D ≠ w.heap.size + 1 := by omega
    clear hb
    gi_wp2
    have hb1 : Bk (W.setCell ⟨w.heap.size + 1, 0, none⟩ (.bool false)) (w.heap.size + 1) 4 #[.bool false] := by simpa using HB.out.set_ 0 (.bool false)
    have hb2 : Bk ((W.setCell ⟨w.heap.size + 1, 0, none⟩ (.bool false)).putObj D (.deferred none)) (w.heap.size + 1) 4 #[.bool false] := (World.putObj_heap_other (fun e => hne e.symm)).trans hb1
    have c9 : ((W.setCell ⟨w.heap.size + 1, 0, none⟩ (.bool false)).putObj D (.deferred none)).cell? ⟨w.heap.size + 1, 0, none⟩ = some (.bool false) := hb2.cell 0
    have hM : M = [] := List.eq_nil_of_length_eq_zero hk
    refine ⟨by simp, .inl ⟨_, _, rfl, run_takeDeferred ((Below.heap_setCell W ⟨w.heap.size + 1, 0, none⟩ _ D hne).trans hK), ?_⟩⟩
    refine ⟨.bool false, by simp [results, Try.results24, go_sem, c9], ?_, ?_⟩
    · rw [HE.out, hM]; rfl
    · exact its_old (g := w1.heap.size) (T := hasT) (ho.st (p := ⟨w.heap.size + 1, 0, none⟩) (by simp) _) (.put _ hD ((Below.heap_setCell W ⟨w.heap.size + 1, 0, none⟩ _ D hne).trans hK) rfl) (by omega)
  case stop =>
    rintro D c' k W hD hk0 ⟨rfl, hk, hb, ho⟩ hK
    have cb : W.cell? ⟨w.heap.size + 1, 0, none⟩ = some (.bool true) := hb.cell 0
    have hne : D ≠ w.heap.size + 1 := by omega
    have hb2 : Bk (W.putObj D (.deferred none)) (w.heap.size + 1) 4 #[.bool true] := (World.putObj_heap_other (fun e => hne e.symm)).trans hb
    have c9 : (W.putObj D (.deferred none)).cell? ⟨w.heap.size + 1, 0, none⟩ = some (.bool true) := hb2.cell 0
    have hM : M ≠ [] := fun e => by rw [e] at hk0; simp at hk0; omega
    gi_wp2
    refine ⟨by simp, .inl ⟨_, _, rfl, run_takeDeferred hK, ?_⟩⟩
    refine ⟨.bool true, by simp [results, Try.results24, go_sem, c9], ?_, ?_⟩
    · rw [HE.out]
      cases M with
      | nil => exact absurd rfl hM
      | cons a b => rfl
    · exact its_old (g := w1.heap.size) (T := hasT) ho (.put _ hD hK rfl) (by omega)
theorem has_any (tb : Nat) (t : BT) (c : Cel) (w : World) (h : Tbl w tb t) :
    Calls Try.prog 24 #[.pointer (some ⟨tb, 0, none⟩), cv c] w fun e w' => e = .returned (.bool (t.ino.any fun d => decide (cmpC d c = 0))) ∧ Old w w' := callsIn_wide.1 (has_in 9 tb t c w h)

/-- Cells with one more, where it stands. -/
def lput (c : Cel) : List Cel → List Cel
  | [] => [c]
  | x :: l => if cmpC c x < 0 then c :: x :: l else x :: lput c l
theorem lput_perm (c : Cel) : ∀ L : List Cel, (lput c L).Perm (c :: L)
  | [] => List.Perm.refl _
  | x :: l => by
    rw [lput]
    split
    · exact List.Perm.refl _
    · exact ((lput_perm c l).cons x).trans (List.Perm.swap _ _ _)
theorem lput_len (c : Cel) (L : List Cel) : (lput c L).length = L.length + 1 := by rw [(lput_perm c L).length_eq]; rfl
theorem lput_ahead {c : Cel} : ∀ {L R : List Cel} {x : Cel}, (∀ y ∈ L, cmpC y x = -1) → cmpC c x < 0 → lput c (L ++ x :: R) = lput c L ++ x :: R
  | [], R, x, _, h => by simp [lput, h]
  | y :: L, R, x, hl, h => by
    rw [List.cons_append, lput, lput]
    split
    · rfl
    · rw [lput_ahead (fun z hz => hl z (by simp [hz])) h]; rfl
theorem lput_behind {c : Cel} : ∀ {L R : List Cel}, (∀ y ∈ L, ¬ cmpC c y < 0) → lput c (L ++ R) = L ++ lput c R
  | [], R, _ => rfl
  | y :: L, R, h => by
    rw [List.cons_append, lput, if_neg (h y (by simp)), lput_behind (fun z hz => h z (by simp [hz]))]
    rfl
theorem tins_lput (c : Cel) : ∀ t : BT, Up t.ino → tins c t = lput c t.ino
  | .leaf, _ => rfl
  | .node b l x r, h => by
    unfold Up at h
    rw [BT.ino, List.pairwise_append] at h
    obtain ⟨h1, h2, h3⟩ := h
    rw [List.pairwise_cons] at h2
    rw [tins, BT.ino]
    split
    · rename_i hlt
      rw [tins_lput c l h1, lput_ahead (fun y hy => h3 y hy x (by simp)) hlt]
    · rename_i hge
      rw [tins_lput c r h2.2, lput_behind, lput, if_neg hge]
      intro y hy hlt
      have a := h3 y hy x (by simp)
      have b := cmpC_vals c y
      have := cmpC_lt_trans c y x (by omega) a
      omega
theorem lput_up {c : Cel} : ∀ {L : List Cel}, Up L → (∀ d ∈ L, cmpC d c ≠ 0) → Up (lput c L)
  | [], _, _ => List.pairwise_singleton _ _
  | x :: l, h, hn => by
    have h2 := List.pairwise_cons.1 h
    rw [lput]
    split
    · rename_i hlt
      refine List.pairwise_cons.2 ⟨fun y hy => ?_, h⟩
      have a := cmpC_vals c x
      rcases List.mem_cons.1 hy with rfl | hy
      · omega
      · exact cmpC_lt_trans c x y (by omega) (h2.1 y hy)
    · rename_i hge
      refine List.pairwise_cons.2 ⟨fun y hy => ?_, lput_up h2.2 fun d hd => hn d (by simp [hd])⟩
      rcases List.mem_cons.1 ((lput_perm c l).mem_iff.1 hy) with rfl | hy
      · have a := cmpC_vals x y
        have b := cmpC_neg x y
        have := hn x (by simp)
        omega
      · exact h2.1 y hy
theorem totB_lput (c : Cel) (L : List Cel) : totB (lput c L) = (enc c).length + totB L := by
  unfold totB
  rw [((lput_perm c L).map _).sum_nat]
  rfl
theorem enc_len {c : Cel} (h : mayB c = true) : (enc c).length ≤ 300 := by
  obtain ⟨-, h2, -, h4, h5⟩ := mayB_parts h
  simp only [enc, text1, List.length_append, List.length_cons, low8, flag1_len, List.length_nil]
  omega
theorem totB_le : ∀ {L : List Cel}, (∀ c ∈ L, mayB c = true ∧ c.ok) → totB L ≤ 300 * L.length
  | [], _ => Nat.le_refl _
  | c :: L, h => by
    have h1 := enc_len (h c (by simp)).1
    have h2 := totB_le (L := L) fun d hd => h d (by simp [hd])
    simp only [totB, List.map_cons, List.sum_cons, List.length_cons] at h2 ⊢
    omega
/-- What Put answers. -/
def putE (c : Cel) (L : List Cel) : Int := if mayB c = false then 1 else if (L.any fun d => decide (cmpC d c = 0)) = true then 4 else 0
/-- What Put leaves. -/
def putL (c : Cel) (L : List Cel) : List Cel := if putE c L = 0 then lput c L else L
/-- What comes of Put. -/
def PutP (tb : Nat) (t : BT) (c : Cel) (w : World) (e : Ending) (w' : World) : Prop :=
  e = .returned (.int .i64 (putE c t.ino)) ∧ ∃ t' : BT, Tbl w' tb t' ∧ t'.ino = putL c t.ino ∧ (∀ i ∈ t'.bls, i ∈ t.bls ∨ w.heap.size ≤ i) ∧ Buts (tb :: t.bls) w w'
theorem Tre.ty {w : World} : ∀ {p : Option Addr} {t : BT}, Tre w p t → ∀ b ∈ t.bls, ∃ cs, Bk w b 67 cs
  | _, .leaf, _, b, hb => by simp [BT.bls] at hb
  | _, .node g l c r, ⟨_, _, _, _, hg, hl, hr⟩, b, hb => by
    simp only [BT.bls, List.mem_cons, List.mem_append] at hb
    rcases hb with rfl | hb | hb
    · exact ⟨_, hg⟩
    · exact hl.ty b hb
    · exact hr.ty b hb
theorem Tbl.apart {w : World} {tb : Nat} {t : BT} (h : Tbl w tb t) : tb ∉ t.bls := fun hm => by
  obtain ⟨p, hb, ht⟩ := h.box
  obtain ⟨cs, hc⟩ := ht.ty tb hm
  exact absurd (hb.uniq hc) (by decide)

set_option maxHeartbeats 8000000 in
theorem put_any (tb : Nat) (t : BT) (c : Cel) (w : World) (h : Tbl w tb t) (hc : c.ok) (hL : t.ino.length ≤ 1000000) :
    Calls Try.prog 10 #[.pointer (some ⟨tb, 0, none⟩), cv c] w (PutP tb t c w) := by
  have o0 := old_alloc w (.cells (cells c) 31)
  have k0 := new_bk w 31 (cells c)
  have x0 : (w.alloc (.cells (cells c) 31)).cell? ⟨w.heap.size, 0, none⟩ = some (.string (B c.row)) := k0.cell 0
  have x1 : (w.alloc (.cells (cells c) 31)).cell? ⟨w.heap.size, 1, none⟩ = some (.string (B c.col)) := k0.cell 1
  have x2 : (w.alloc (.cells (cells c) 31)).cell? ⟨w.heap.size, 2, none⟩ = some (.int .u64 c.ts) := k0.cell 2
  have x3 : (w.alloc (.cells (cells c) 31)).cell? ⟨w.heap.size, 3, none⟩ = some (.int .u64 c.seq) := k0.cell 3
  have x4 : (w.alloc (.cells (cells c) 31)).cell? ⟨w.heap.size, 4, none⟩ = some (.bool c.del) := k0.cell 4
  have x5 : (w.alloc (.cells (cells c) 31)).cell? ⟨w.heap.size, 5, none⟩ = some (.string (B c.val)) := k0.cell 5
  cases hm : mayB c with
  | false =>
    have he : putE c t.ino = 1 := by unfold putE; rw [if_pos hm]
    have HE := Lib.hid he
    have HN := Lib.hid (encode_no c (w.alloc (.cells (cells c) 31)) hm)
    clear he
    go_enter Try.func10, Try.ntmps10
    go_wp2_with fail
    refine HN.out.mono ?_
    rintro e w1 ⟨rfl, o1⟩
    go_wp2
    go_ret
    refine ⟨ret_int HE.out.symm, t, h.old (o0.tr o1), ?_, fun i hi => .inl hi, .of_old (o0.tr o1)⟩
    unfold putL
    rw [HE.out, if_neg (by decide)]
  | true =>
    have HN := Lib.hid (encode_yes c (w.alloc (.cells (cells c) 31)) hm hc)
    have HM := Lib.hid hm
    have HK := Lib.hid k0
    have hel := enc_len hm
    clear k0 hm
    go_enter Try.func10, Try.ntmps10
    go_wp2_with fail
    refine HN.out.mono ?_
    rintro e w1 ⟨rfl, o1⟩
    have o2 := o0.tr o1
    have k1 := HK.out.old o1
    have y0 : w1.cell? ⟨w.heap.size, 0, none⟩ = some (.string (B c.row)) := k1.cell 0
    have y1 : w1.cell? ⟨w.heap.size, 1, none⟩ = some (.string (B c.col)) := k1.cell 1
    have y2 : w1.cell? ⟨w.heap.size, 2, none⟩ = some (.int .u64 c.ts) := k1.cell 2
    have y3 : w1.cell? ⟨w.heap.size, 3, none⟩ = some (.int .u64 c.seq) := k1.cell 3
    have y4 : w1.cell? ⟨w.heap.size, 4, none⟩ = some (.bool c.del) := k1.cell 4
    have y5 : w1.cell? ⟨w.heap.size, 5, none⟩ = some (.string (B c.val)) := k1.cell 5
    have HH := Lib.hid (has_any tb t c w1 (h.old o2))
    have HK1 := Lib.hid k1
    clear x0 x1 x2 x3 x4 x5 k1 HN HK
    go_wp2_with fail
    refine HH.out.mono ?_
    rintro e w2 ⟨rfl, o3⟩
    have o4 := o2.tr o3
    have k2 := HK1.out.old o3
    have HK2 := Lib.hid k2
    clear y0 y1 y2 y3 y4 y5 HH HK1
    cases ha : (t.ino.any fun d => decide (cmpC d c = 0)) with
    | true =>
      have HE := Lib.hid (show putE c t.ino = 4 by unfold putE; rw [if_neg (by rw [HM.out]; decide), if_pos ha])
      clear k2
      go_wp2
      go_ret
      refine ⟨ret_int HE.out.symm, t, h.old o4, ?_, fun i hi => .inl hi, .of_old o4⟩
      unfold putL
      rw [HE.out, if_neg (by decide)]
    | false =>
      have HE := Lib.hid (show putE c t.ino = 0 by unfold putE; rw [if_neg (by rw [HM.out]; decide), if_neg (by rw [ha]; decide)])
      have HA := Lib.hid ha
      have HT := Lib.hid h
      obtain ⟨p, hb, ht⟩ := (h.old o4).box
      have y0 : w2.cell? ⟨w.heap.size, 0, none⟩ = some (.string (B c.row)) := k2.cell 0
      have y1 : w2.cell? ⟨w.heap.size, 1, none⟩ = some (.string (B c.col)) := k2.cell 1
      have y2 : w2.cell? ⟨w.heap.size, 2, none⟩ = some (.int .u64 c.ts) := k2.cell 2
      have y3 : w2.cell? ⟨w.heap.size, 3, none⟩ = some (.int .u64 c.seq) := k2.cell 3
      have y4 : w2.cell? ⟨w.heap.size, 4, none⟩ = some (.bool c.del) := k2.cell 4
      have y5 : w2.cell? ⟨w.heap.size, 5, none⟩ = some (.string (B c.val)) := k2.cell 5
      have c0 : w2.cell? ⟨tb, 0, none⟩ = some (.pointer p) := hb.cell 0
      have HB := Lib.hid hb
      have HW := Lib.hid (with_any c t p w2.drew (ht.old (Old.re w2).dr) h.nd)
      have nt : tb ∉ t.bls := h.apart
      have htot := totB_le h.may
      clear hb ht ha h k2
      go_wp2_with fail
      go_region_with (first
        | (go_at_call 25; refine HW.out.mono ?_; rintro rr w3 ⟨g, l2, x2, r2, rfl, t2, i2, m2, e2, k2⟩; have b3 := k2.bk (HB.out.old (Old.re w2).dr) nt; have HQ := Lib.hid (And.intro t2 (And.intro i2 (And.intro m2 (And.intro e2 (And.intro k2 b3))))); have f3 := b3.fr; have z0 : w3.cell? ⟨tb, 0, none⟩ = some (.pointer p) := b3.cell 0; have z1 : w3.cell? ⟨tb, 1, none⟩ = some (.int .i64 (t.ino.length : Int)) := b3.cell 1; have z2 : w3.cell? ⟨tb, 2, none⟩ = some (.int .i64 (totB t.ino : Int)) := b3.cell 2; clear t2 i2 m2 e2 b3))
      all_goals
        have w1' : IntKind.i64.wrap ((t.ino.length : Int) + 1) = (t.ino.length : Int) + 1 := by rw [IntKind.wrap_i64]; omega
        have w2' : IntKind.i64.wrap ((totB t.ino : Int) + ((enc c).length : Int)) = (totB t.ino : Int) + ((enc c).length : Int) := by rw [IntKind.wrap_i64]; omega
        have w3' : IntKind.i64.wrap ((enc c).length : Int) = ((enc c).length : Int) := by rw [IntKind.wrap_i64]; omega
        go_wp2
        go_ret
        obtain ⟨t2, i2, m2, e2, k3, b3⟩ := HQ.out
        have hP : putL c t.ino = lput c t.ino := by unfold putL; rw [if_pos HE.out]
        have hI : (BT.node g l2 x2 r2).ino = lput c t.ino := i2.trans (tins_lput c t HT.out.up)
        have hlow : tb < w.heap.size := by
          obtain ⟨p', hb', -⟩ := HT.out.box
          exact hb'.lt
        have hnt : tb ∉ (BT.node g l2 x2 r2).bls := fun hm => by
          obtain ⟨cs, hcs⟩ := t2.ty tb hm
          exact absurd (b3.uniq hcs) (by decide)
        refine ⟨ret_int HE.out.symm, .node g l2 x2 r2, ⟨⟨some ⟨g, 0, none⟩, ?_, ((t2.set hnt _ _).set hnt _ _).set hnt _ _⟩, m2, ?_, ?_⟩, hI.trans hP.symm, fun i hi => (e2 i hi).imp id fun h => Nat.le_trans o4.size h, ?_⟩
        · have e8 : ((t.ino.length + 1 : Nat) : Int) = (t.ino.length : Int) + 1 := by omega
          have e9 : (((enc c).length + totB t.ino : Nat) : Int) = (totB t.ino : Int) + ((enc c).length : Int) := by omega
          rw [hI, lput_len, totB_lput, e8, e9]
          simpa using ((b3.set_ 0 (.pointer (some ⟨g, 0, none⟩))).set_ 1 (.int .i64 ((t.ino.length : Int) + 1))).set_ 2 (.int .i64 ((totB t.ino : Int) + ((enc c).length : Int)))
        · rw [hI]
          refine lput_up HT.out.up fun d hd he => ?_
          have := HA.out
          rw [List.any_eq_false] at this
          exact this d hd (by simpa using he)
        · rw [hI]
          intro d hd
          rcases List.mem_cons.1 ((lput_perm c _).mem_iff.1 hd) with rfl | hd
          · exact ⟨HM.out, hc⟩
          · exact HT.out.may d hd
        · exact ((((Buts.of_old (o4.tr (Old.re w2).dr)).tr (k3.mono fun i hi => List.mem_cons_of_mem _ hi)).st (by simp) _ _).st (by simp) _ _).st (by simp) _ _
end Go.Proofs.Ythanenblcplbhaa
