/-
  Apply: the code's. Conditions: lengths as written.
-/
import Derived.Test.YteglddggjkibcaaFAp
namespace Go.Proofs.Yteglddggjkibcaa
open Go.RowKit

/-- What Apply answers. -/
def PostA (w : World) (r : Int × St) (e : Ending) (w' : World) : Prop :=
  ∃ v, e = .returned (.tuple #[.agg #[v, .int .u64 (r.2.next : Int), .int .u64 (r.2.fl : Int)], .int .i64 r.1]) ∧ Old w w' ∧ OwnE 60 w' w.heap.size v r.2.files
theorem ap_1 {s : St} {e : Ed} (h : e.add.all mayF = false ∨ ¬ s.next ≤ e.next ∨ ¬ s.fl ≤ e.fl) : apF s e = (1, St0) := by
  unfold apF
  rw [if_pos]
  rcases h with h | h | h <;> simp [h]
theorem ap_2 {s : St} {e : Ed} (hg : Good s) (h1 : e.add.all mayF = true) (h2 : s.next ≤ e.next) (h3 : s.fl ≤ e.fl) : apF s e = match rdropF s.files e.del with
    | none => (3, St0)
    | some l => match raddF l e.add with
      | none => (4, St0)
      | some m => if crossL m = true then (40, St0) else (0, ⟨m, e.next, e.fl⟩) := by
  unfold apF
  rw [if_neg (by simp [h1, h2, h3]), isort_self hg.srt hg.once]
  cases rdropF s.files e.del with
  | none => rfl
  | some l => dsimp only; cases raddF l e.add <;> rfl
theorem ap_3 {s : St} {e : Ed} (hg : Good s) (h1 : e.add.all mayF = true) (h2 : s.next ≤ e.next) (h3 : s.fl ≤ e.fl) (h4 : dropF (cnt s.files) e.del = none) : apF s e = (3, St0) := by
  rw [ap_2 hg h1 h2 h3]
  rcases drop_same e.del s.files _ hg.once (cnts_of _) with h | ⟨G', l', k1, k2, k3, k4, k5⟩
  · rw [h.2]
  · rw [h4] at k1; cases k1
theorem ap_4 {s : St} {e : Ed} (hg : Good s) (h1 : e.add.all mayF = true) (h2 : s.next ≤ e.next) (h3 : s.fl ≤ e.fl) {G : List UInt8 → Int} (h4 : dropF (cnt s.files) e.del = some G) :
    (∀ s, 0 ≤ G s) ∧ (addF G e.add = none → apF s e = (4, St0)) ∧
    ∀ G2, addF G e.add = some G2 → ∀ M, Sim M ((s.files.filter fun x => decide (0 < G x.name)) ++ e.add) → Srt M → apF s e = if nbr (M.filter deepB) = true then (40, St0) else (0, ⟨M, e.next, e.fl⟩) := by
  rw [ap_2 hg h1 h2 h3]
  rcases drop_same e.del s.files _ hg.once (cnts_of _) with h | ⟨G', l', k1, k2, k3, k4, k5⟩
  · rw [h.1] at h4; cases h4
  · rw [h4] at k1
    injection k1 with k1
    subst k1
    rw [k2]
    dsimp only
    refine ⟨fun s => (k4 s).1, ?_, ?_⟩
    · intro h5
      rcases add_same e.add l' G (by rw [k3]; exact once_filter hg.once _) (by rw [k3]; exact List.Pairwise.sublist List.filter_sublist hg.srt) k4 with h | ⟨G'', m, q1, q2, q3, q4, q5⟩
      · rw [h.2]
      · rw [h5] at q1; cases q1
    · intro G2 h5 M hM hS
      rcases add_same e.add l' G (by rw [k3]; exact once_filter hg.once _) (by rw [k3]; exact List.Pairwise.sublist List.filter_sublist hg.srt) k4 with h | ⟨G'', m, q1, q2, q3, q4, q5⟩
      · rw [h.1] at h5; cases h5
      · rw [q2]
        dsimp only
        rw [← k3] at hM
        obtain rfl : M = m := srt_uniq hS q4 (List.Perm.trans hM q3.symm) ((once_perm (List.Perm.trans hM q3.symm)).2 q5)
        have hmay : ∀ x ∈ M, mayF x = true := fun x hx => by
          rcases List.mem_append.1 (q3.mem_iff.1 hx) with h | h
          · rw [k3] at h
            exact hg.may x (List.mem_filter.1 h).1
          · exact List.all_eq_true.1 h1 x h
        rw [crs_iff hS hmay]

/-- The frame's three boxes. -/
def Fr (w : World) (h : Nat) (vs va vd : Value) (s : St) (n f : Nat) : Prop :=
  Bk w h 27 #[vs, .int .u64 (s.next : Int), .int .u64 (s.fl : Int)] ∧ Bk w (h + 1) 34 #[va, vd, .int .u64 (n : Int), .int .u64 (f : Int)] ∧ Bk w (h + 1 + 1) 27 #[.slice none 0 0, .int .u64 0, .int .u64 0]
theorem Fr.old {w w' : World} {h : Nat} {vs va vd : Value} {s : St} {n f : Nat} (k : Fr w h vs va vd s n f) (o : Old w w') : Fr w' h vs va vd s n f := ⟨k.1.old o, k.2.1.old o, k.2.2.old o⟩
theorem Fr.gmap {w w' : World} {h g m : Nat} {vs va vd : Value} {s : St} {n f : Nat} {F : List UInt8 → Int} (k : Fr w h vs va vd s n f) (o : w.grownBy w' (some g)) (hm : NM w g m F) : Fr w' h vs va vd s n f := ⟨k.1.gmap o hm, k.2.1.gmap o hm, k.2.2.gmap o hm⟩
theorem Fr.cells {w : World} {h : Nat} {vs va vd : Value} {s : St} {n f : Nat} (k : Fr w h vs va vd s n f) :
    (w.cell? ⟨h, 0, none⟩ = some vs ∧ w.cell? ⟨h, 1, none⟩ = some (.int .u64 (s.next : Int)) ∧ w.cell? ⟨h, 2, none⟩ = some (.int .u64 (s.fl : Int))) ∧
    (w.cell? ⟨h + 1, 0, none⟩ = some va ∧ w.cell? ⟨h + 1, 1, none⟩ = some vd ∧ w.cell? ⟨h + 1, 2, none⟩ = some (.int .u64 (n : Int)) ∧ w.cell? ⟨h + 1, 3, none⟩ = some (.int .u64 (f : Int))) ∧
    (w.cell? ⟨h + 1 + 1, 0, none⟩ = some (.slice none 0 0) ∧ w.cell? ⟨h + 1 + 1, 1, none⟩ = some (.int .u64 0) ∧ w.cell? ⟨h + 1 + 1, 2, none⟩ = some (.int .u64 0) ∧ ∀ o, w.frozen? ⟨h + 1 + 1, o, none⟩ = false) :=
  ⟨⟨k.1.cell 0, k.1.cell 1, k.1.cell 2⟩, ⟨k.2.1.cell 0, k.2.1.cell 1, k.2.1.cell 2, k.2.1.cell 3⟩, k.2.2.cell 0, k.2.2.cell 1, k.2.2.cell 2, fun o => k.2.2.fr o⟩
set_option maxRecDepth 10000 in
set_option maxHeartbeats 4000000 in
theorem apply_any (w : World) (s : St) (e : Ed) (hg : Good s) (vs va : Value) (Ad : Option Addr) (dc : Nat) (hs : Itms w vs s.files) (ha : Itms w va e.add) (hd : Strs w Ad dc e.del)
    (l1 : s.files.length ≤ 20000) (l2 : e.add.length ≤ 20000) (l3 : e.del.length ≤ 20000) (n1 : ∀ x ∈ s.files, x.name.length ≤ 1000) (n2 : ∀ x ∈ e.add, x.name.length ≤ 1000) (n3 : ∀ t ∈ e.del, t.length ≤ 1000) :
    Calls Try.prog 11 #[.agg #[vs, .int .u64 (s.next : Int), .int .u64 (s.fl : Int)], .agg #[va, .slice Ad e.del.length dc, .int .u64 (e.next : Int), .int .u64 (e.fl : Int)]] w (PostA w (apF s e)) := by
  have HS := Lib.hid hs
  obtain ⟨Aa, ca, rfl, -⟩ := ha.form
  have HA := Lib.hid ha
  have HD := Lib.hid hd
  have HN := Lib.hid (And.intro n1 (And.intro n2 n3))
  have HG := Lib.hid hg
  clear hs ha hd n1 n2 n3 hg
  go_enter Try.func11, Try.ntmps11
  go_wp2_with fail
  have F0 := Lib.hid (show Fr (((w.alloc (.cells #[vs, .int .u64 (s.next : Int), .int .u64 (s.fl : Int)] 27)).alloc (.cells #[.slice Aa e.add.length ca, .slice Ad e.del.length dc, .int .u64 (e.next : Int), .int .u64 (e.fl : Int)] 34)).alloc (.cells #[.slice none 0 0, .int .u64 0, .int .u64 0] 27)) w.heap.size vs (.slice Aa e.add.length ca) (.slice Ad e.del.length dc) s e.next e.fl from
    ⟨((new_bk _ _ _).alloc _).alloc _, (by have := (new_bk (w.alloc (.cells #[vs, .int .u64 (s.next : Int), .int .u64 (s.fl : Int)] 27)) 34 #[.slice Aa e.add.length ca, .slice Ad e.del.length dc, .int .u64 (e.next : Int), .int .u64 (e.fl : Int)]).alloc (.cells #[.slice none 0 0, .int .u64 0, .int .u64 0] 27); simpa using this), (by have := new_bk ((w.alloc (.cells #[vs, .int .u64 (s.next : Int), .int .u64 (s.fl : Int)] 27)).alloc (.cells #[.slice Aa e.add.length ca, .slice Ad e.del.length dc, .int .u64 (e.next : Int), .int .u64 (e.fl : Int)] 34)) 27 #[.slice none 0 0, .int .u64 0, .int .u64 0]; simpa using this)⟩)
  have O0 := (((Old.re w).al (.cells #[vs, .int .u64 (s.next : Int), .int .u64 (s.fl : Int)] 27)).al (.cells #[.slice Aa e.add.length ca, .slice Ad e.del.length dc, .int .u64 (e.next : Int), .int .u64 (e.fl : Int)] 34)).al (.cells #[.slice none 0 0, .int .u64 0, .int .u64 0] 27)
  refine (allMay_any _ (.slice Aa e.add.length ca) e.add (HA.out.old O0) (by omega)).mono ?_
  rintro e1 w1 ⟨rfl, o1⟩
  have O1 := O0.tr o1
  have F1 := Lib.hid (F0.out.old o1)
  obtain ⟨h, hh⟩ : ∃ h, h = w.heap.size := ⟨_, rfl⟩
  have HZ : w.heap.size ≤ h + 1 + 1 := by omega
  rw [← hh] at F1 ⊢
  have HH := Lib.hid hh
  clear F0 O0 o1 hh
  obtain ⟨⟨a0, a1, a2⟩, ⟨b0, b1, b2, b3⟩, ⟨c0, c1, c2, fr⟩⟩ := F1.out.cells
  cases m1 : e.add.all mayF with
  | false =>
    have HR := Lib.hid (ap_1 (s := s) (e := e) (.inl m1))
    clear m1
    go_wp2
    refine bodyPost_ret (v := .tuple #[.agg #[.slice none 0 0, .int .u64 0, .int .u64 0], .int .i64 1]) (by simp [results, Try.results11, go_sem, c0, c1, c2]) rfl ?_
    rw [HR.out]
    exact ⟨_, rfl, ((O1.st (p := ⟨h + 1 + 1, _, none⟩) HZ _).st (p := ⟨h + 1 + 1, _, none⟩) HZ _).st (p := ⟨h + 1 + 1, _, none⟩) HZ _, OwnE.nil _ _ _⟩
  | true =>
    by_cases m2 : s.next ≤ e.next
    case neg =>
      have HR := Lib.hid (ap_1 (s := s) (e := e) (.inr (.inl m2)))
      clear m1
      go_wp2
      refine bodyPost_ret (v := .tuple #[.agg #[.slice none 0 0, .int .u64 0, .int .u64 0], .int .i64 1]) (by simp [results, Try.results11, go_sem, c0, c1, c2]) rfl ?_
      rw [HR.out]
      exact ⟨_, rfl, ((O1.st (p := ⟨h + 1 + 1, _, none⟩) HZ _).st (p := ⟨h + 1 + 1, _, none⟩) HZ _).st (p := ⟨h + 1 + 1, _, none⟩) HZ _, OwnE.nil _ _ _⟩
    by_cases m3 : s.fl ≤ e.fl
    case neg =>
      have HR := Lib.hid (ap_1 (s := s) (e := e) (.inr (.inr m3)))
      clear m1
      go_wp2
      refine bodyPost_ret (v := .tuple #[.agg #[.slice none 0 0, .int .u64 0, .int .u64 0], .int .i64 1]) (by simp [results, Try.results11, go_sem, c0, c1, c2]) rfl ?_
      rw [HR.out]
      exact ⟨_, rfl, ((O1.st (p := ⟨h + 1 + 1, _, none⟩) HZ _).st (p := ⟨h + 1 + 1, _, none⟩) HZ _).st (p := ⟨h + 1 + 1, _, none⟩) HZ _, OwnE.nil _ _ _⟩
    have HM := Lib.hid (And.intro m1 (And.intro m2 m3))
    clear m1
    go_wp2_with fail
    have hw : w.heap.size ≤ w1.heap.size := O1.size
    refine (namesOf_any w1 vs s.files (HS.out.old O1) (by omega) HN.out.1).mono ?_
    rintro e1 w2 ⟨rfl, o2, n2⟩
    have F2 := Lib.hid (F1.out.old o2)
    have O2 := O1.tr o2
    have N2 := Lib.hid n2
    obtain ⟨g, hg⟩ : ∃ g, g = w1.heap.size := ⟨_, rfl⟩
    rw [← hg] at N2 hw ⊢
    clear o2 n2 a0 a1 a2 b0 b1 b2 b3 c0 c1 c2 fr m2 m3 F1 O1 hg
    go_upto_region 4 with (fail)
    have F3 := Lib.hid (F2.out.old (old_alloc w2 (.cells #[.map (some g)] 67)))
    have O3 := O2.al (.cells #[.map (some g)] 67)
    have N3 := Lib.hid (N2.out.old (old_alloc w2 (.cells #[.map (some g)] 67)))
    have B3 := Lib.hid (new_bk w2 67 #[.map (some g)])
    generalize w2.alloc (.cells #[.map (some g)] 67) = w3 at *
    generalize w2.heap.size = h6 at *
    clear F2 O2 N2
    obtain ⟨⟨a0, a1, a2⟩, ⟨b0, b1, b2, b3⟩, ⟨c0, c1, c2, fr⟩⟩ := F3.out.cells
    have d0 : w3.cell? ⟨h6, 0, none⟩ = some (.map (some g)) := B3.out.cell 0
    go_wp2_with fail
    obtain ⟨R, hR⟩ : ∃ R, R = dropF (cnt s.files) e.del := ⟨_, rfl⟩
    refine (drop_any w w3 g s.files.length (cnt s.files) Ad dc e.del HD.out HN.out.2.2 (by omega) O3 hw N3.out (by omega) R hR).mono ?_
    rintro e1 w4 ⟨rfl, gr4, O4, m, G, n4, hm, hG⟩
    have F4 := Lib.hid (F3.out.gmap gr4 N3.out)
    have N4 := Lib.hid n4
    have B4 := Lib.hid (B3.out.gmap gr4 N3.out)
    clear n4 gr4 a0 a1 a2 b0 b1 b2 b3 c0 c1 c2 fr d0 F3 N3 B3 O3
    obtain ⟨⟨a0, a1, a2⟩, ⟨b0, b1, b2, b3⟩, ⟨c0, c1, c2, fr⟩⟩ := F4.out.cells
    have d0 : w4.cell? ⟨h6, 0, none⟩ = some (.map (some g)) := B4.out.cell 0
    cases R with
    | none =>
      have HR := Lib.hid (ap_3 HG.out HM.out.1 HM.out.2.1 HM.out.2.2 hR.symm)
      have hI : errI (none : Option (List UInt8 → Int)).isSome 3 = 3 := rfl
      rw [hI]
      clear hI hR hG
      go_wp2
      refine bodyPost_ret (v := .tuple #[.agg #[.slice none 0 0, .int .u64 0, .int .u64 0], .int .i64 3]) (by simp [results, Try.results11, go_sem, c0, c1, c2]) rfl ?_
      rw [HR.out]
      exact ⟨_, rfl, ((O4.st (p := ⟨h + 1 + 1, _, none⟩) HZ _).st (p := ⟨h + 1 + 1, _, none⟩) HZ _).st (p := ⟨h + 1 + 1, _, none⟩) HZ _, OwnE.nil _ _ _⟩
    | some G2 =>
      have hI : errI (some G2).isSome 3 = 0 := rfl
      rw [hI]
      obtain rfl : G2 = G := by rcases hG with h | h; cases h; injection h
      obtain ⟨pos, HE4, HE5⟩ := ap_4 HG.out HM.out.1 HM.out.2.1 HM.out.2.2 hR.symm
      have HPP := Lib.hid pos
      have HE4 := Lib.hid HE4
      have HE5 := Lib.hid HE5
      clear hI hR hG pos
      go_wp2_with fail
      have hT : Tells 31 #[.pointer (some ⟨h6, 0, none⟩)] (fun x => decide (0 < G2 x.name)) s.files w4 := fun x hx W hW => there_any x W h6 g m G2 (B4.out.old hW) (N4.out.old hW) (HN.out.1 x hx)
      refine (those_any 31 (fun args w => by kernel_rfl) _ _ w4 vs s.files (HS.out.old O4) (by omega) hT).mono ?_
      rintro e1 w5 ⟨u5, rfl, own5, o5⟩
      have hlen5 : (s.files.filter fun x => decide (0 < G2 x.name)).length ≤ 20000 := Nat.le_trans (List.length_filter_le _ _) l1
      generalize (s.files.filter fun x => decide (0 < G2 x.name)) = L5 at *
      have O5 := O4.tr o5
      have F5 := Lib.hid (F4.out.old o5)
      have N5 := Lib.hid (N4.out.old o5)
      have B5 := Lib.hid (B4.out.old o5)
      obtain ⟨A5, q5, rfl, -⟩ := own5.form
      have own5 := Lib.hid (own5.lower O4.size)
      clear hT o5 a0 a1 a2 b0 b1 b2 b3 c0 c1 c2 fr d0 F4 N4 B4 O4
      obtain ⟨⟨a0, a1, a2⟩, ⟨b0, b1, b2, b3⟩, ⟨c0, c1, c2, fr⟩⟩ := F5.out.cells
      have d0 : w5.cell? ⟨h6, 0, none⟩ = some (.map (some g)) := B5.out.cell 0
      go_wp2_with fail
      obtain ⟨R6, hR6⟩ : ∃ R, R = addF G2 e.add := ⟨_, rfl⟩
      refine (add_any w w5 g m G2 (.slice Aa e.add.length ca) e.add HA.out HN.out.2.1 (by omega) O5 hw N5.out (by omega) HPP.out R6 hR6).mono ?_
      rintro e1 w6 ⟨rfl, gr6, O6⟩
      have F6 := Lib.hid (F5.out.gmap gr6 N5.out)
      have own6 := Lib.hid (own5.out.grown gr6 N5.out)
      clear gr6 a0 a1 a2 b0 b1 b2 b3 c0 c1 c2 fr d0 F5 N5 B5 O5 own5
      obtain ⟨⟨a0, a1, a2⟩, ⟨b0, b1, b2, b3⟩, ⟨c0, c1, c2, fr⟩⟩ := F6.out.cells
      cases R6 with
      | none =>
        have HR := Lib.hid (HE4.out hR6.symm)
        have hI : errI (none : Option (List UInt8 → Int)).isSome 4 = 4 := rfl
        rw [hI]
        clear hI hR6
        go_wp2
        refine bodyPost_ret (v := .tuple #[.agg #[.slice none 0 0, .int .u64 0, .int .u64 0], .int .i64 4]) (by simp [results, Try.results11, go_sem, c0, c1, c2]) rfl ?_
        rw [HR.out]
        exact ⟨_, rfl, ((O6.st (p := ⟨h + 1 + 1, _, none⟩) HZ _).st (p := ⟨h + 1 + 1, _, none⟩) HZ _).st (p := ⟨h + 1 + 1, _, none⟩) HZ _, OwnE.nil _ _ _⟩
      | some G6 =>
        have hI : errI (some G6).isSome 4 = 0 := rfl
        rw [hI]
        have HE6 := Lib.hid (HE5.out G6 hR6.symm)
        clear hI hR6 HE4 HE5 HPP
        go_wp2_with fail
        have hb := new_bk w6 24 #[.slice A5 L5.length q5, .slice Aa e.add.length ca]
        have O7 := O6.al (.cells #[.slice A5 L5.length q5, .slice Aa e.add.length ca] 24)
        have F7 := Lib.hid (F6.out.old (old_alloc w6 (.cells #[.slice A5 L5.length q5, .slice Aa e.add.length ca] 24)))
        have hL7 := lsts_two hb (own6.out.its.old (old_alloc w6 (.cells #[.slice A5 L5.length q5, .slice Aa e.add.length ca] 24))) (HA.out.old O7)
        generalize w6.alloc (.cells #[.slice A5 L5.length q5, .slice Aa e.add.length ca] 24) = w7 at *
        generalize w6.heap.size = h7 at *
        refine (concat_any w7 _ _ hL7 (by simp) (by simp; omega)).mono ?_
        rintro e1 w8 ⟨u8, rfl, o8, own8⟩
        have e8 : [L5, e.add].flatten = L5 ++ e.add := by simp
        rw [e8] at own8
        obtain ⟨A8, q8, rfl, -⟩ := own8.form
        obtain ⟨n8, hn8⟩ : ∃ n8, n8 = (L5 ++ e.add).length := ⟨_, rfl⟩
        rw [← hn8] at own8 ⊢
        have own8 := Lib.hid own8
        clear hn8 e8 hb hL7 own6 F6 O6 a0 a1 a2 b0 b1 b2 b3 c0 c1 c2 fr
        go_wp2_with fail
        refine (inOrder_any w7 w8 _ (L5 ++ e.add) o8 own8.out (by simp; omega)).mono ?_
        rintro e1 w9 ⟨rfl, o9, M, g1, g2, g3⟩
        have hM : M.length ≤ 40000 := by have := g1.len; simp at this; omega
        have own9 := Lib.hid g3
        have HE9 := Lib.hid (HE6.out M g1 g2)
        have F9 := Lib.hid (F7.out.old o9)
        have O9 := O7.tr o9
        have h79 := O7.size
        clear g1 g2 g3 o8 o9 own8 HE6 F7 O7
        go_wp2_with fail
        refine (crossed_any w9 _ M own9.out.its (by omega)).mono ?_
        rintro e1 w10 ⟨rfl, o10⟩
        have F10 := Lib.hid (F9.out.old o10)
        have O10 := O9.tr o10
        have own10 := Lib.hid ((own9.out.old o10).lower h79)
        clear own9 F9 O9 o10 h79
        obtain ⟨⟨a0, a1, a2⟩, ⟨b0, b1, b2, b3⟩, ⟨c0, c1, c2, fr⟩⟩ := F10.out.cells
        cases hN : nbr (M.filter deepB) with
        | true =>
          have HR := Lib.hid (show apF s e = (40, St0) by rw [HE9.out, hN]; rfl)
          clear hN HE9
          go_wp2
          refine bodyPost_ret (v := .tuple #[.agg #[.slice none 0 0, .int .u64 0, .int .u64 0], .int .i64 40]) (by simp [results, Try.results11, go_sem, c0, c1, c2]) rfl ?_
          rw [HR.out]
          exact ⟨_, rfl, ((O10.st (p := ⟨h + 1 + 1, _, none⟩) HZ _).st (p := ⟨h + 1 + 1, _, none⟩) HZ _).st (p := ⟨h + 1 + 1, _, none⟩) HZ _, OwnE.nil _ _ _⟩
        | false =>
          have HR := Lib.hid (show apF s e = (0, ⟨M, e.next, e.fl⟩) by rw [HE9.out, hN]; rfl)
          clear hN HE9
          go_wp2
          refine bodyPost_ret (v := .tuple #[.agg #[.slice A8 n8 q8, .int .u64 (e.next : Int), .int .u64 (e.fl : Int)], .int .i64 0]) (by simp [results, Try.results11, go_sem, c0, c1, c2]) rfl ?_
          rw [HR.out]
          have q1 := F10.out.2.2
          have q2 := q1.set_ 0 (.slice A8 n8 q8)
          have q3 := q2.set_ 1 (.int .u64 (e.next : Int))
          exact ⟨_, rfl, ((O10.st (p := ⟨h + 1 + 1, _, none⟩) HZ _).st (p := ⟨h + 1 + 1, _, none⟩) HZ _).st (p := ⟨h + 1 + 1, _, none⟩) HZ _, ((own10.out.far q1 (by decide) 0 _).far q2 (by decide) 1 _).far q3 (by decide) 2 _⟩
end Go.Proofs.Yteglddggjkibcaa
