/-
  Apply: the reference's. Conditions: lengths as written.
-/
import Derived.Test.YteglddggjkibcaaFRf
namespace Go.Proofs.Yteglddggjkibcaa
open Go.RowKit

/-- What the reference's Apply answers. -/
def PostR (w : World) (r : Int × St) (e : Ending) (w' : World) : Prop :=
  ∃ v, e = .returned (.tuple #[.agg #[v, .int .u64 (r.2.next : Int), .int .u64 (r.2.fl : Int)], .int .i64 r.1]) ∧ Old w w' ∧ OwnE 75 w' w.heap.size v r.2.files
theorem rdropF_app (l : List Itm) (a b : List (List UInt8)) : rdropF l (a ++ b) = (rdropF l a).bind fun m => rdropF m b := by
  induction a generalizing l with
  | nil => rfl
  | cons d r ih =>
    rw [List.cons_append, rdropF, rdropF]
    cases findN l d with
    | none => rfl
    | some k => exact ih _
theorem raddF_app (l : List Itm) (a b : List Itm) : raddF l (a ++ b) = (raddF l a).bind fun m => raddF m b := by
  induction a generalizing l with
  | nil => rfl
  | cons x r ih =>
    rw [List.cons_append, raddF, raddF]
    cases findN l x.name with
    | none => exact ih _
    | some k => rfl
theorem split_at {α : Type} {l : List α} {k : Nat} {d : α} (hd : l[k]? = some d) : l = l.take k ++ d :: l.drop (k + 1) := by
  obtain ⟨h1, h2⟩ := List.getElem?_eq_some_iff.1 hd
  rw [← h2, ← List.drop_eq_getElem_cons h1, List.take_append_drop]
theorem rdrop_no {l m : List Itm} {del : List (List UInt8)} {k : Nat} {d : List UInt8} (h : rdropF l (del.take k) = some m) (hd : del[k]? = some d) (hm : findN m d = none) : rdropF l del = none := by
  rw [split_at hd, rdropF_app, h]
  simp [rdropF, hm]
theorem rdrop_yes {l m : List Itm} {del : List (List UInt8)} {k j : Nat} {d : List UInt8} (h : rdropF l (del.take k) = some m) (hd : del[k]? = some d) (hm : findN m d = some j) : rdropF l (del.take (k + 1)) = some (m.take j ++ m.drop (j + 1)) := by
  rw [← take_at hd, rdropF_app, h]
  simp [rdropF, hm]
theorem radd_no {l m : List Itm} {add : List Itm} {k j : Nat} {x : Itm} (h : raddF l (add.take k) = some m) (hd : add[k]? = some x) (hm : findN m x.name = some j) : raddF l add = none := by
  rw [split_at hd, raddF_app, h]
  simp [raddF, hm]
theorem radd_yes {l m : List Itm} {add : List Itm} {k : Nat} {x : Itm} (h : raddF l (add.take k) = some m) (hd : add[k]? = some x) (hm : findN m x.name = none) : raddF l (add.take (k + 1)) = some (insI m x) := by
  rw [← take_at hd, raddF_app, h]
  simp [raddF, hm]
theorem isort_step {l : List Itm} {k : Nat} {x : Itm} (h : l[k]? = some x) : insI (isort (l.take k)) x = isort (l.take (k + 1)) := by
  rw [← take_at h, isort_snoc]
theorem insI_len (l : List Itm) (x : Itm) : (insI l x).length = l.length + 1 := by rw [(insI_perm l x).length_eq]; rfl
theorem apR_2 {s : St} {e : Ed} (h1 : e.add.all mayF = true) (h2 : s.next ≤ e.next) (h3 : s.fl ≤ e.fl) : apF s e = match rdropF (isort s.files) e.del with
    | none => (3, St0)
    | some l => match raddF l e.add with
      | none => (4, St0)
      | some m => if crossL m = true then (40, St0) else (0, ⟨m, e.next, e.fl⟩) := by
  unfold apF
  rw [if_neg (by simp [h1, h2, h3])]
  cases rdropF (isort s.files) e.del with
  | none => rfl
  | some l => dsimp only; cases raddF l e.add <;> rfl
theorem all_no {α : Type} {p : α → Bool} {l : List α} {k : Nat} {x : α} (hx : l[k]? = some x) (hp : p x = false) : l.all p = false := by
  rw [List.all_eq_false]
  exact ⟨x, List.mem_of_getElem? hx, by simp [hp]⟩
/-- No two of those up to here meet. -/
def Clear (m : List Itm) (i : Nat) : Prop := ∀ (i' k' : Nat) (x y : Itm), i' < i → k' < i' → m[i']? = some x → m[k']? = some y → meet x y = false
def ClearAt (m : List Itm) (i k : Nat) : Prop := ∀ (k' : Nat) (x y : Itm), k' < k → m[i]? = some x → m[k']? = some y → meet x y = false
theorem Clear.step {m : List Itm} {i : Nat} (h : Clear m i) (k : ClearAt m i i) : Clear m (i + 1) := fun i' k' x y h1 h2 hx hy => by
  rcases Nat.lt_or_ge i' i with h3 | h3
  · exact h i' k' x y h3 h2 hx hy
  · obtain rfl : i' = i := by omega
    exact k k' x y h2 hx hy
theorem ClearAt.step {m : List Itm} {i k : Nat} {x y : Itm} (h : ClearAt m i k) (hx : m[i]? = some x) (hy : m[k]? = some y) (hm : meet x y = false) : ClearAt m i (k + 1) := fun k' a b h1 ha hb => by
  rcases Nat.lt_or_ge k' k with h3 | h3
  · exact h k' a b h3 ha hb
  · obtain rfl : k' = k := by omega
    rw [hx] at ha
    rw [hy] at hb
    injection ha with ha
    injection hb with hb
    subst ha hb
    exact hm
theorem clear_no {m : List Itm} (h : Clear m m.length) : crossL m = false := by
  rw [← Bool.not_eq_true, crossL_iff]
  rintro ⟨i, k, x, y, h1, hx, hy, hm⟩
  rw [h i k x y (List.getElem?_eq_some_iff.1 hx).1 h1 hx hy] at hm
  cases hm
theorem meet_yes {m : List Itm} {i k : Nat} {x y : Itm} (h1 : k < i) (hx : m[i]? = some x) (hy : m[k]? = some y) (hm : meet x y = true) : crossL m = true := by
  rw [crossL_iff]
  exact ⟨i, k, x, y, h1, hx, hy, hm⟩
theorem pr_of2 {w W : World} {g h o1 o2 : Nat} {x y : Itm} (k0 : At5 w g o1 x) (k1 : At5 w h o2 y) (k : Old w W) : Old w W ∧ W.cell? ⟨g, o1, none⟩ = some (.int .i64 x.lev) ∧ W.cell? ⟨g, o1 + 1, none⟩ = some (.string (B x.name)) ∧ W.cell? ⟨g, o1 + 2, none⟩ = some (.string (B x.low)) ∧ W.cell? ⟨g, o1 + 3, none⟩ = some (.string (B x.high)) ∧ W.cell? ⟨g, o1 + 4, none⟩ = some (.int .i64 x.many) ∧ W.cell? ⟨h, o2, none⟩ = some (.int .i64 y.lev) ∧ W.cell? ⟨h, o2 + 1, none⟩ = some (.string (B y.name)) ∧ W.cell? ⟨h, o2 + 2, none⟩ = some (.string (B y.low)) ∧ W.cell? ⟨h, o2 + 3, none⟩ = some (.string (B y.high)) ∧ W.cell? ⟨h, o2 + 4, none⟩ = some (.int .i64 y.many) := by
  obtain ⟨a0, a1, a2, a3, a4⟩ := (k0.old k).held
  obtain ⟨b0, b1, b2, b3, b4⟩ := (k1.old k).held
  exact ⟨k, a0, a1, a2, a3, a4, b0, b1, b2, b3, b4⟩
/-- The frame's three boxes, of the reference. -/
def FrR (w : World) (h : Nat) (vs va vd : Value) (s : St) (n f : Nat) : Prop :=
  Bk w h 30 #[vs, .int .u64 (s.next : Int), .int .u64 (s.fl : Int)] ∧ Bk w (h + 1) 41 #[va, vd, .int .u64 (n : Int), .int .u64 (f : Int)] ∧ Bk w (h + 1 + 1) 30 #[.slice none 0 0, .int .u64 0, .int .u64 0]
theorem FrR.old {w w' : World} {h : Nat} {vs va vd : Value} {s : St} {n f : Nat} (k : FrR w h vs va vd s n f) (o : Old w w') : FrR w' h vs va vd s n f := ⟨k.1.old o, k.2.1.old o, k.2.2.old o⟩
theorem FrR.cells {w : World} {h : Nat} {vs va vd : Value} {s : St} {n f : Nat} (k : FrR w h vs va vd s n f) :
    (w.cell? ⟨h, 0, none⟩ = some vs ∧ w.cell? ⟨h, 1, none⟩ = some (.int .u64 (s.next : Int)) ∧ w.cell? ⟨h, 2, none⟩ = some (.int .u64 (s.fl : Int))) ∧
    (w.cell? ⟨h + 1, 0, none⟩ = some va ∧ w.cell? ⟨h + 1, 1, none⟩ = some vd ∧ w.cell? ⟨h + 1, 2, none⟩ = some (.int .u64 (n : Int)) ∧ w.cell? ⟨h + 1, 3, none⟩ = some (.int .u64 (f : Int))) ∧
    (w.cell? ⟨h + 1 + 1, 0, none⟩ = some (.slice none 0 0) ∧ w.cell? ⟨h + 1 + 1, 1, none⟩ = some (.int .u64 0) ∧ w.cell? ⟨h + 1 + 1, 2, none⟩ = some (.int .u64 0) ∧ ∀ o, w.frozen? ⟨h + 1 + 1, o, none⟩ = false) :=
  ⟨⟨k.1.cell 0, k.1.cell 1, k.1.cell 2⟩, ⟨k.2.1.cell 0, k.2.1.cell 1, k.2.1.cell 2, k.2.1.cell 3⟩, k.2.2.cell 0, k.2.2.cell 1, k.2.2.cell 2, fun o => k.2.2.fr o⟩
set_option maxRecDepth 100000 in
set_option maxHeartbeats 16000000 in
theorem rapply_any (w : World) (s : St) (e : Ed) (vs va : Value) (Ad : Option Addr) (dc : Nat) (hs : Itms w vs s.files) (ha : Itms w va e.add) (hd : Strs w Ad dc e.del)
    (l1 : s.files.length ≤ 15000) (l2 : e.add.length ≤ 15000) (l3 : e.del.length ≤ 15000) :
    Calls Try.prog 12 #[.agg #[vs, .int .u64 (s.next : Int), .int .u64 (s.fl : Int)], .agg #[va, .slice Ad e.del.length dc, .int .u64 (e.next : Int), .int .u64 (e.fl : Int)]] w (PostR w (apF s e)) := by
  obtain ⟨As, cs, rfl, -⟩ := hs.form
  obtain ⟨Aa, ca, rfl, -⟩ := ha.form
  have HS := Lib.hid hs
  have HA := Lib.hid ha
  have HD := Lib.hid hd
  clear hs ha hd
  go_enter Try.func12, Try.ntmps12
  go_wp2_with fail
  have F0 := Lib.hid (show FrR (((w.alloc (.cells #[.slice As s.files.length cs, .int .u64 (s.next : Int), .int .u64 (s.fl : Int)] 30)).alloc (.cells #[.slice Aa e.add.length ca, .slice Ad e.del.length dc, .int .u64 (e.next : Int), .int .u64 (e.fl : Int)] 41)).alloc (.cells #[.slice none 0 0, .int .u64 0, .int .u64 0] 30)) w.heap.size (.slice As s.files.length cs) (.slice Aa e.add.length ca) (.slice Ad e.del.length dc) s e.next e.fl from
    ⟨((new_bk _ _ _).alloc _).alloc _, (by have := (new_bk (w.alloc (.cells #[.slice As s.files.length cs, .int .u64 (s.next : Int), .int .u64 (s.fl : Int)] 30)) 41 #[.slice Aa e.add.length ca, .slice Ad e.del.length dc, .int .u64 (e.next : Int), .int .u64 (e.fl : Int)]).alloc (.cells #[.slice none 0 0, .int .u64 0, .int .u64 0] 30); simpa using this), (by have := new_bk ((w.alloc (.cells #[.slice As s.files.length cs, .int .u64 (s.next : Int), .int .u64 (s.fl : Int)] 30)).alloc (.cells #[.slice Aa e.add.length ca, .slice Ad e.del.length dc, .int .u64 (e.next : Int), .int .u64 (e.fl : Int)] 41)) 30 #[.slice none 0 0, .int .u64 0, .int .u64 0]; simpa using this)⟩)
  have O0 := (((Old.re w).al (.cells #[.slice As s.files.length cs, .int .u64 (s.next : Int), .int .u64 (s.fl : Int)] 30)).al (.cells #[.slice Aa e.add.length ca, .slice Ad e.del.length dc, .int .u64 (e.next : Int), .int .u64 (e.fl : Int)] 41)).al (.cells #[.slice none 0 0, .int .u64 0, .int .u64 0] 30)
  obtain ⟨h, hh⟩ : ∃ h, h = w.heap.size := ⟨_, rfl⟩
  have HZ : w.heap.size ≤ h + 1 + 1 := by omega
  rw [← hh] at F0 ⊢
  clear hh
  generalize (((w.alloc (.cells #[.slice As s.files.length cs, .int .u64 (s.next : Int), .int .u64 (s.fl : Int)] 30)).alloc (.cells #[.slice Aa e.add.length ca, .slice Ad e.del.length dc, .int .u64 (e.next : Int), .int .u64 (e.fl : Int)] 41)).alloc (.cells #[.slice none 0 0, .int .u64 0, .int .u64 0] 30)) = w0 at *
  go_loopw [6] (fun iv wr => ∃ k : Nat, iv = .int .i64 k ∧ k ≤ e.add.length ∧ Old w0 wr ∧ Hid ((e.add.take k).all mayF = true)) (fun iv _ => e.add.length - (intOf iv).toNat)
  case atStart => exact ⟨0, rfl, Nat.zero_le _, Old.re _, Lib.hid (by simp)⟩
  case round =>
    obtain ⟨k, rfl, hk, o1, HB⟩ := hrel
    have F1 := Lib.hid (F0.out.old o1)
    obtain ⟨⟨a0, a1, a2⟩, ⟨b0, b1, b2, b3⟩, ⟨c0, c1, c2, fr⟩⟩ := F1.out.cells
    have O1 := O0.tr o1
    by_cases hlt : k < e.add.length
    · obtain ⟨x, HX⟩ : ∃ x, Hid (e.add[k]? = some x) := ⟨e.add[k], Lib.hid (List.getElem?_eq_getElem hlt)⟩
      obtain ⟨b, off, rfl, hx⟩ := (HA.out.old O1).at_ HX.out
      obtain ⟨x0, x1, x2, x3, x4⟩ := hx.held
      go_wp2_with fail
      refine (rmay_any x _).mono ?_
      rintro e1 w2 ⟨rfl, o2⟩
      have F2 := Lib.hid (F1.out.old o2)
      have O2 := O1.tr o2
      have o3 := o1.tr o2
      clear x0 x1 x2 x3 x4 hx O1 F1 o1 o2 a0 a1 a2 b0 b1 b2 b3 c0 c1 c2 fr
      obtain ⟨⟨a0, a1, a2⟩, ⟨b0, b1, b2, b3⟩, ⟨c0, c1, c2, fr⟩⟩ := F2.out.cells
      cases hm : mayF x with
      | false =>
        have HR := Lib.hid (ap_1 (s := s) (e := e) (.inl (all_no HX.out hm)))
        clear hm HB HX
        go_wp2
        refine bodyPost_ret (v := .tuple #[.agg #[.slice none 0 0, .int .u64 0, .int .u64 0], .int .i64 1]) (by simp [results, Try.results12, go_sem, c0, c1, c2]) rfl ?_
        rw [HR.out]
        exact ⟨_, rfl, ((O2.st (p := ⟨h + 1 + 1, _, none⟩) HZ _).st (p := ⟨h + 1 + 1, _, none⟩) HZ _).st (p := ⟨h + 1 + 1, _, none⟩) HZ _, OwnE.nil _ _ _⟩
      | true =>
        have HB2 : Hid ((e.add.take (k + 1)).all mayF = true) := Lib.hid (by
          rw [← take_at HX.out, List.all_append, HB.out]
          simp [hm])
        clear hm HB HX
        go_wp2
        go_roundw
        case rel => exact ⟨k + 1, by go_num, by omega, o3, HB2⟩
        case measure => simp [intOf]; omega
    · obtain rfl : k = e.add.length := by omega
      have M1 : Hid (e.add.all mayF = true) := Lib.hid (by have := HB.out; rwa [List.take_length] at this)
      clear HB F0 O0 o1
      by_cases m2 : s.next ≤ e.next
      case neg =>
        have HR := Lib.hid (ap_1 (s := s) (e := e) (.inr (.inl m2)))
        go_wp2
        refine bodyPost_ret (v := .tuple #[.agg #[.slice none 0 0, .int .u64 0, .int .u64 0], .int .i64 1]) (by simp [results, Try.results12, go_sem, c0, c1, c2]) rfl ?_
        rw [HR.out]
        exact ⟨_, rfl, ((O1.st (p := ⟨h + 1 + 1, _, none⟩) HZ _).st (p := ⟨h + 1 + 1, _, none⟩) HZ _).st (p := ⟨h + 1 + 1, _, none⟩) HZ _, OwnE.nil _ _ _⟩
      by_cases m3 : s.fl ≤ e.fl
      case neg =>
        have HR := Lib.hid (ap_1 (s := s) (e := e) (.inr (.inr m3)))
        go_wp2
        refine bodyPost_ret (v := .tuple #[.agg #[.slice none 0 0, .int .u64 0, .int .u64 0], .int .i64 1]) (by simp [results, Try.results12, go_sem, c0, c1, c2]) rfl ?_
        rw [HR.out]
        exact ⟨_, rfl, ((O1.st (p := ⟨h + 1 + 1, _, none⟩) HZ _).st (p := ⟨h + 1 + 1, _, none⟩) HZ _).st (p := ⟨h + 1 + 1, _, none⟩) HZ _, OwnE.nil _ _ _⟩
      have HP := Lib.hid (apR_2 M1.out m2 m3)
      have d2 : decide (e.next < s.next) = false := by simp; omega
      have d3 : decide (e.fl < s.fl) = false := by simp; omega
      clear M1 m2 m3
      go_wp2_with fail
      clear d2 d3
      have hb := new_bk wr 75 #[]
      have O2 := O1.al (.cells #[] 75)
      have F2 := Lib.hid (F1.out.old (old_alloc wr (.cells #[] 75)))
      have HO2 := Lib.hid (OwnN.empty (base := w.heap.size) hb O1.size)
      clear hb O1 F1 a0 a1 a2 b0 b1 b2 b3 c0 c1 c2 fr
      generalize wr.alloc (.cells #[] 75) = w2 at *
      go_loopw [7, 8] (fun ov iv wr => ∃ k : Nat, iv = .int .i64 k ∧ k ≤ s.files.length ∧ Old w2 wr ∧ Hid (OwnN 75 wr w.heap.size ov (isort (s.files.take k)))) (fun _ iv _ => s.files.length - (intOf iv).toNat)
      case atStart => exact ⟨0, rfl, Nat.zero_le _, Old.re _, HO2⟩
      case round =>
        clear HO2
        obtain ⟨k, rfl, hk, o1, HO⟩ := hrel
        have F3 := Lib.hid (F2.out.old o1)
        have O3 := O2.tr o1
        obtain ⟨⟨a0, a1, a2⟩, ⟨b0, b1, b2, b3⟩, ⟨c0, c1, c2, fr⟩⟩ := F3.out.cells
        by_cases hlt : k < s.files.length
        · obtain ⟨x, HX⟩ : ∃ x, Hid (s.files[k]? = some x) := ⟨s.files[k], Lib.hid (List.getElem?_eq_getElem hlt)⟩
          obtain ⟨b, off, rfl, hx⟩ := (HS.out.old O3).at_ HX.out
          obtain ⟨x0, x1, x2, x3, x4⟩ := hx.held
          have hlen : (isort (s.files.take k)).length ≤ 15000 := by rw [(isort_perm _).length_eq, List.length_take]; omega
          go_wp2_with fail
          refine (put_any _ _ _ _ x HO.out (by omega)).mono ?_
          rintro e1 w4 ⟨u, rfl, o4, n4⟩
          have HO4 : Hid (OwnN 75 w4 w.heap.size u (isort (s.files.take (k + 1)))) := Lib.hid (by
            rw [← isort_step HX.out]
            exact n4.low O3.size)
          have o5 := o1.tr o4
          clear x0 x1 x2 x3 x4 hx n4 o4 o1 O3 F3 HO HX hlen a0 a1 a2 b0 b1 b2 b3 c0 c1 c2 fr
          go_wp2
          go_roundw
          case rel => exact ⟨k + 1, by go_num, by omega, o5, HO4⟩
          case measure => simp [intOf]; omega
        · obtain rfl : k = s.files.length := by omega
          have HO3 := HO.out
          rw [List.take_length] at HO3
          have hlen : (isort s.files).length ≤ 15000 := by rw [(isort_perm _).length_eq]; omega
          have HO3 := Lib.hid HO3
          have HL3 := Lib.hid hlen
          clear HO hlen O2 F2 o1
          generalize wr = w3 at *
          go_wp2_with fail
          go_loopw [7, 9] (fun ov iv wr => ∃ (k : Nat) (m : List Itm), iv = .int .i64 k ∧ k ≤ e.del.length ∧ m.length ≤ 15000 ∧ Old w3 wr ∧ Hid (OwnN 75 wr w.heap.size ov m ∧ rdropF (isort s.files) (e.del.take k) = some m)) (fun _ iv _ => e.del.length - (intOf iv).toNat)
          case atStart => exact ⟨0, _, rfl, Nat.zero_le _, HL3.out, Old.re _, Lib.hid ⟨HO3.out, rfl⟩⟩
          case round =>
            clear HO3 HL3
            obtain ⟨k, m, rfl, hk, hm, o1, HO⟩ := hrel
            obtain ⟨g, cap, r, rfl, hg, hc, hb, hr, hmx⟩ := HO.out.1.form
            have F4 := Lib.hid (F3.out.old o1)
            have O4 := O3.tr o1
            have HOB := Lib.hid hb
            clear hb hr a0 a1 a2 b0 b1 b2 b3 c0 c1 c2 fr
            obtain ⟨⟨a0, a1, a2⟩, ⟨b0, b1, b2, b3⟩, ⟨c0, c1, c2, fr⟩⟩ := F4.out.cells
            by_cases hlt : k < e.del.length
            · obtain ⟨t, HX⟩ : ∃ t, Hid (e.del[k]? = some t) := ⟨e.del[k], Lib.hid (List.getElem?_eq_getElem hlt)⟩
              obtain ⟨hln, b, off, rfl, hx⟩ := (HD.out.old O4).2 k t HX.out
              have C := find_any wr _ m t HO.out.1.1.its (by omega)
              clear hln
              cases hf : findN m t with
              | none =>
                have HR := Lib.hid (show apF s e = (3, St0) by rw [HP.out, rdrop_no HO.out.2 HX.out hf])
                rw [hf] at C
                dsimp only at C
                clear hf HO HX
                go_wp2_with fail
                refine C.mono ?_
                rintro e1 w5 ⟨rfl, hw5⟩
                have hw5 := hw5.symm
                subst hw5
                clear C
                go_wp2
                refine bodyPost_ret (v := .tuple #[.agg #[.slice none 0 0, .int .u64 0, .int .u64 0], .int .i64 3]) (by simp [results, Try.results12, go_sem, c0, c1, c2]) rfl ?_
                rw [HR.out]
                exact ⟨_, rfl, ((O4.st (p := ⟨h + 1 + 1, _, none⟩) HZ _).st (p := ⟨h + 1 + 1, _, none⟩) HZ _).st (p := ⟨h + 1 + 1, _, none⟩) HZ _, OwnE.nil _ _ _⟩
              | some j =>
                have HY := Lib.hid (rdrop_yes HO.out.2 HX.out hf)
                have hj : j < m.length := by
                  obtain ⟨x, hx, -⟩ := findN_some hf
                  exact (List.getElem?_eq_some_iff.1 hx).1
                rw [hf] at C
                dsimp only at C
                clear hf HO HX
                go_wp2_with fail
                refine C.mono ?_
                rintro e1 w5 ⟨rfl, hw5⟩
                have hw5 := hw5.symm
                subst hw5
                clear C hx
                go_upto_region 19 with (fail)
                clear a0 a1 a2 b0 b1 b2 b3 c0 c1 c2 fr
                obtain ⟨off2, hif, hC2⟩ : ∃ off2 : Nat, (if cap = j + 1 then some (⟨g, 0, none⟩ : Addr) else some ⟨g, (j + 1) * 5, none⟩) = some ⟨g, off2, none⟩ ∧ ItsAt wr g off2 (m.drop (j + 1)) := by
                  by_cases q : cap = j + 1
                  · refine ⟨0, if_pos q, ?_⟩
                    rw [List.drop_of_length_le (by omega)]
                    intro i c hc
                    simp at hc
                  · refine ⟨(j + 1) * 5, if_neg q, ?_⟩
                    have := (bk_its HOB.out).drop_ (j + 1)
                    rwa [Nat.zero_add] at this
                have hIA := (bk_its HOB.out).take_ j
                have z1 : (0 : Int) ≤ (j : Int) := by omega
                have z2 : (j : Int) ≤ (cap : Int) := by omega
                have z3 : (0 : Int) ≤ (j : Int) + 1 := by omega
                have z4 : (j : Int) + 1 ≤ (m.length : Int) := by omega
                have z5 : (m.length : Int) ≤ (cap : Int) := by omega
                have z6 : (j : Int) + 1 ≤ (cap : Int) := by omega
                have z7 : IntKind.i64.wrap ((j : Int) + 1) = (j : Int) + 1 := by rw [IntKind.wrap_i64]; omega
                have z8 : ((j : Int) + 1).toNat = j + 1 := by omega
                have hIx : ∀ W, Old wr W → Itms W (.slice (some ⟨g, 0, none⟩) j cap) (m.take j) := fun W o => .inr ⟨⟨g, 0, none⟩, cap, by rw [List.length_take, Nat.min_eq_left (by omega)], by simp; omega, fun _ => ⟨g, 0, rfl, hIA.old o⟩⟩
                have hIy : ∀ W, Old wr W → Itms W (.slice (some ⟨g, off2, none⟩) (m.length - (j + 1)) (cap - (j + 1))) (m.drop (j + 1)) := fun W o => .inr ⟨⟨g, off2, none⟩, cap - (j + 1), by simp, by simp; omega, fun _ => ⟨g, off2, rfl, hC2.old o⟩⟩
                go_region_held_law (fun W => Old wr W) (exact (by repeat (first | with_reducible exact Old.re _ | with_reducible assumption | with_reducible apply Old.al | with_reducible apply Old.dr | with_reducible apply Old.dn)))
                  (first
                    | (refine step_itsN rfl _ rfl (.tmp 74) (.tmp 77) 28 75 Try.underlying28 Try.infoItemR rfl (W0 := wr) (by repeat (first | with_reducible exact Old.re _ | with_reducible assumption | with_reducible apply Old.al | with_reducible apply Old.dr | with_reducible apply Old.dn)) _ [] (m.take j) rfl (OwnN.empty (by first | with_reducible exact (new_bk _ _ _).drew | with_reducible exact ((new_bk _ _ _).alloc _).drew | with_reducible exact (new_bk1 _ _ _ _).drew) (by simp)) (.slice (some ⟨g, 0, none⟩) j cap) rfl (hIx _ (by repeat (first | with_reducible exact Old.re _ | with_reducible assumption | with_reducible apply Old.al | with_reducible apply Old.dr | with_reducible apply Old.dn))) (by simp; omega) ?_; intro v3 w3 n3 o3 hk3; rw [List.nil_append] at n3)
                    | (refine step_itsN rfl _ rfl (.tmp 78) (.tmp 82) 28 75 Try.underlying28 Try.infoItemR rfl (W0 := wr) o3 v3 (m.take j) (m.drop (j + 1)) rfl n3 (.slice (some ⟨g, off2, none⟩) (m.length - (j + 1)) (cap - (j + 1))) rfl (hIy _ o3) (by simp; omega) ?_; intro v5 w9 n5 oo5 hk5))
                all_goals clear z1 z2 z3 z4 z5 z6 z7 z8 hk3 hk5 n3 o3 hif hC2 hIA hIx hIy HOB
                all_goals
                  have n6 : OwnN 75 w9 w.heap.size v5 (m.take j ++ m.drop (j + 1)) := n5.low O4.size
                  have o6 := o1.tr oo5
                  have hlen : (m.take j ++ m.drop (j + 1)).length ≤ 15000 := by simp; omega
                  obtain ⟨A6, c6, rfl, -⟩ := n6.1.form
                  obtain ⟨M6, hM6⟩ : ∃ M6, M6 = m.take j ++ m.drop (j + 1) := ⟨_, rfl⟩
                  rw [← hM6] at n6 hlen HY ⊢
                  have HN6 := Lib.hid (And.intro n6 HY.out)
                  clear n5 n6 oo5 o1 hM6 HY O4 F4
                  go_wp2
                  go_roundw
                  case rel => exact ⟨k + 1, M6, by go_num, by omega, hlen, o6, HN6⟩
                  case measure => simp [intOf]; omega
            · obtain rfl : k = e.del.length := by omega
              have HQ := Lib.hid (show apF s e = match raddF m e.add with
                  | none => (4, St0)
                  | some m => if crossL m = true then (40, St0) else (0, ⟨m, e.next, e.fl⟩) by
                have h2 := HO.out.2
                rw [List.take_length] at h2
                rw [HP.out, h2])
              have HO3 := Lib.hid HO.out.1
              clear HO HOB O3 F3 o1
              generalize wr = w4 at *
              go_wp2_with fail
              go_loopw [7, 11] (fun ov iv wr => ∃ (k : Nat) (m' : List Itm), iv = .int .i64 k ∧ k ≤ e.add.length ∧ m'.length ≤ 15000 + k ∧ Old w4 wr ∧ Hid (OwnN 75 wr w.heap.size ov m' ∧ raddF m (e.add.take k) = some m')) (fun _ iv _ => e.add.length - (intOf iv).toNat)
              case atStart => exact ⟨0, m, rfl, Nat.zero_le _, by omega, Old.re _, Lib.hid ⟨HO3.out, rfl⟩⟩
              case round =>
                clear HO3 hg hc hmx
                obtain ⟨k, m', rfl, hk, hm', o1, HO⟩ := hrel
                obtain ⟨g, cap, r, rfl, hg, hc, hb, hr, hmx⟩ := HO.out.1.form
                have F5 := Lib.hid (F4.out.old o1)
                have O5 := O4.tr o1
                have HOB := Lib.hid hb
                clear hb hr a0 a1 a2 b0 b1 b2 b3 c0 c1 c2 fr
                obtain ⟨⟨a0, a1, a2⟩, ⟨b0, b1, b2, b3⟩, ⟨c0, c1, c2, fr⟩⟩ := F5.out.cells
                by_cases hlt : k < e.add.length
                · obtain ⟨x, HX⟩ : ∃ x, Hid (e.add[k]? = some x) := ⟨e.add[k], Lib.hid (List.getElem?_eq_getElem hlt)⟩
                  obtain ⟨b, off, rfl, hx⟩ := (HA.out.old O5).at_ HX.out
                  obtain ⟨x0, x1, x2, x3, x4⟩ := hx.held
                  have C := find_any wr _ m' x.name HO.out.1.1.its (by omega)
                  cases hf : findN m' x.name with
                  | some j =>
                    have HR := Lib.hid (show apF s e = (4, St0) by rw [HQ.out, radd_no HO.out.2 HX.out hf])
                    rw [hf] at C
                    dsimp only at C
                    clear hf HX HO hx
                    go_wp2_with fail
                    refine C.mono ?_
                    rintro e1 w5 ⟨rfl, hw5⟩
                    have hw5 := hw5.symm
                    subst hw5
                    clear C x0 x1 x2 x3 x4
                    go_wp2
                    refine bodyPost_ret (v := .tuple #[.agg #[.slice none 0 0, .int .u64 0, .int .u64 0], .int .i64 4]) (by simp [results, Try.results12, go_sem, c0, c1, c2]) rfl ?_
                    rw [HR.out]
                    exact ⟨_, rfl, ((O5.st (p := ⟨h + 1 + 1, _, none⟩) HZ _).st (p := ⟨h + 1 + 1, _, none⟩) HZ _).st (p := ⟨h + 1 + 1, _, none⟩) HZ _, OwnE.nil _ _ _⟩
                  | none =>
                    have HY := Lib.hid (radd_yes HO.out.2 HX.out hf)
                    rw [hf] at C
                    dsimp only at C
                    have HO5 := Lib.hid HO.out.1
                    clear hf HX HO hx
                    go_wp2_with fail
                    refine C.mono ?_
                    rintro e1 w5 ⟨rfl, hw5⟩
                    have hw5 := hw5.symm
                    subst hw5
                    clear C
                    go_wp2_with fail
                    refine (put_any _ _ _ _ x HO5.out (by omega)).mono ?_
                    rintro e1 w6 ⟨u, rfl, o6, n6⟩
                    have n6 := n6.low O5.size
                    obtain ⟨A6, c6, rfl, -⟩ := n6.1.form
                    have hlen : (insI m' x).length ≤ 15000 + (k + 1) := by rw [insI_len]; omega
                    obtain ⟨M6, hM6⟩ : ∃ M6, M6 = insI m' x := ⟨_, rfl⟩
                    rw [← hM6] at n6 hlen HY ⊢
                    have HN6 := Lib.hid (And.intro n6 HY.out)
                    have o7 := o1.tr o6
                    clear x0 x1 x2 x3 x4 n6 o6 o1 HY HO5 HOB hM6 F5 O5
                    go_wp2
                    go_roundw
                    case rel => exact ⟨k + 1, M6, by go_num, by omega, hlen, o7, HN6⟩
                    case measure => simp [intOf]; omega
                · obtain rfl : k = e.add.length := by omega
                  have HE := Lib.hid (show apF s e = if crossL m' = true then (40, St0) else (0, ⟨m', e.next, e.fl⟩) by
                    have h2 := HO.out.2
                    rw [List.take_length] at h2
                    rw [HQ.out, h2])
                  have HO6 := Lib.hid HO.out.1
                  clear HO O4 F4 o1 HQ HP hk
                  generalize wr = w5 at *
                  go_wp2_with fail
                  go_loopw [12] (fun iv wr => ∃ i : Nat, iv = .int .i64 i ∧ i ≤ m'.length ∧ Old w5 wr ∧ Hid (Clear m' i)) (fun iv _ => m'.length - (intOf iv).toNat)
                  case atStart => exact ⟨0, rfl, Nat.zero_le _, Old.re _, Lib.hid (fun i' k' x y h1 => absurd h1 (by omega))⟩
                  case round =>
                    clear a0 a1 a2 b0 b1 b2 b3 c0 c1 c2 fr
                    obtain ⟨i, rfl, hi, o1, HC⟩ := hrel
                    have F6 := Lib.hid (F5.out.old o1)
                    have O6 := O5.tr o1
                    have HOW := Lib.hid (HOB.out.old o1)
                    obtain ⟨⟨a0, a1, a2⟩, ⟨b0, b1, b2, b3⟩, ⟨c0, c1, c2, fr⟩⟩ := F6.out.cells
                    by_cases hlt1 : i < m'.length
                    · go_wp2_with fail
                      obtain ⟨x, HX⟩ : ∃ x, Hid (m'[i]? = some x) := ⟨m'[i], Lib.hid (List.getElem?_eq_getElem hlt1)⟩
                      go_loopw [13] (fun iv w7 => ∃ k : Nat, iv = .int .i64 k ∧ k ≤ i ∧ Old wr w7 ∧ Hid (ClearAt m' i k)) (fun iv _ => i - (intOf iv).toNat)
                      case atStart => exact ⟨0, rfl, Nat.zero_le _, Old.re _, Lib.hid (fun k' x y h1 => absurd h1 (by omega))⟩
                      case round =>
                        clear a0 a1 a2 b0 b1 b2 b3 c0 c1 c2 fr
                        rename World => w7
                        obtain ⟨k, rfl, hk, o2, HC2⟩ := hrel
                        have F7 := Lib.hid (F6.out.old o2)
                        have O7 := O6.tr o2
                        have HOW2 := Lib.hid (HOW.out.old o2)
                        have o3 := o1.tr o2
                        obtain ⟨⟨a0, a1, a2⟩, ⟨b0, b1, b2, b3⟩, ⟨c0, c1, c2, fr⟩⟩ := F7.out.cells
                        by_cases hlt2 : k < i
                        · obtain ⟨y, HY⟩ : ∃ y, Hid (m'[k]? = some y) := ⟨m'[k]'(by omega), Lib.hid (List.getElem?_eq_getElem (by omega))⟩
                          have hS : ∀ W, Old w7 W → _ := fun W o => pr_of2 (bk_at HOW2.out HX.out) (bk_at HOW2.out HY.out) o
                          obtain ⟨-, x0, x1, x2, x3, x4, y0, y1, y2, y3, y4⟩ := hS w7 (Old.re _)
                          have hb1 : (0 : Int) ≤ (k : Int) := by omega
                          have hb2 : (k : Int) < (m'.length : Int) := by omega
                          have hb3 : (0 : Int) ≤ (i : Int) := by omega
                          have hb4 : (i : Int) < (m'.length : Int) := by omega
                          by_cases p1 : 0 < x.lev
                          · by_cases p2 : x.lev = y.lev
                            · have d1 : decide (0 < x.lev) = true := by simpa using p1
                              have d2 : (x.lev == y.lev) = true := by simpa using p2
                              have PP := Lib.hid (And.intro p1 p2)
                              clear p1 p2
                              go_wp2_with fail
                              go_region_held3 (fun W => Old w7 W ∧ W.cell? ⟨g, i * 5, none⟩ = some (.int .i64 x.lev) ∧ W.cell? ⟨g, i * 5 + 1, none⟩ = some (.string (B x.name)) ∧ W.cell? ⟨g, i * 5 + 2, none⟩ = some (.string (B x.low)) ∧ W.cell? ⟨g, i * 5 + 3, none⟩ = some (.string (B x.high)) ∧ W.cell? ⟨g, i * 5 + 4, none⟩ = some (.int .i64 x.many) ∧ W.cell? ⟨g, k * 5, none⟩ = some (.int .i64 y.lev) ∧ W.cell? ⟨g, k * 5 + 1, none⟩ = some (.string (B y.name)) ∧ W.cell? ⟨g, k * 5 + 2, none⟩ = some (.string (B y.low)) ∧ W.cell? ⟨g, k * 5 + 3, none⟩ = some (.string (B y.high)) ∧ W.cell? ⟨g, k * 5 + 4, none⟩ = some (.int .i64 y.many)) (first | exact hS _ (Old.re _).dr | exact pr_old (by assumption) (by assumption))
                                (first
                                  | (go_at_call 39; with_reducible refine (common_any x y _).mono ?_; rintro e2 w8 ⟨rfl, o8⟩))
                              rename_i hHeld
                              have f9 : Old w7 w8 := hHeld.1
                              have F8 := Lib.hid (F7.out.old f9)
                              have O8 := O7.tr f9
                              have o9 := o2.tr f9
                              clear hS hHeld x0 x1 x2 x3 x4 y0 y1 y2 y3 y4 d1 d2 o8 f9 F7 O7 a0 a1 a2 b0 b1 b2 b3 c0 c1 c2 fr
                              obtain ⟨⟨a0, a1, a2⟩, ⟨b0, b1, b2, b3⟩, ⟨c0, c1, c2, fr⟩⟩ := F8.out.cells
                              cases hL : (leT x.low y.high && leT y.low x.high) with
                              | true =>
                                have hM : meet x y = true := by
                                  unfold meet
                                  have h1 : decide (0 < x.lev) = true := by simpa using PP.out.1
                                  have h2 : decide (x.lev = y.lev) = true := by simpa using PP.out.2
                                  rw [h1, h2, hL]
                                  rfl
                                have HR := Lib.hid (show apF s e = (40, St0) by rw [HE.out, meet_yes hlt2 HX.out HY.out hM]; rfl)
                                clear hM hL HX HY HC HC2 HE
                                go_wp2
                                refine bodyPost_ret (v := .tuple #[.agg #[.slice none 0 0, .int .u64 0, .int .u64 0], .int .i64 40]) (by simp [results, Try.results12, go_sem, c0, c1, c2]) rfl ?_
                                rw [HR.out]
                                exact ⟨_, rfl, ((O8.st (p := ⟨h + 1 + 1, _, none⟩) HZ _).st (p := ⟨h + 1 + 1, _, none⟩) HZ _).st (p := ⟨h + 1 + 1, _, none⟩) HZ _, OwnE.nil _ _ _⟩
                              | false =>
                                have hM : meet x y = false := by
                                  unfold meet
                                  rw [hL]
                                  simp
                                have HC3 := Lib.hid (HC2.out.step HX.out HY.out hM)
                                clear hM hL HX HY HC HC2
                                go_wp2
                                go_roundw
                                case rel => exact ⟨k + 1, by go_num, by omega, o9, HC3⟩
                                case measure => simp [intOf]; omega
                            · have d1 : decide (0 < x.lev) = true := by simpa using p1
                              have d2 : (x.lev == y.lev) = false := by simpa using p2
                              have hM : meet x y = false := by unfold meet; simp [p2]
                              have HC3 := Lib.hid (HC2.out.step HX.out HY.out hM)
                              clear p1 p2 hM
                              go_wp2_with fail
                              go_quiet (fail)
                              have o9 := o2.dn nq
                              clear d1 d2 x0 x1 x2 x3 x4 y0 y1 y2 y3 y4 HX HY HC HC2 hS
                              go_wp2
                              go_roundw
                              case rel => exact ⟨k + 1, by go_num, by omega, o9, HC3⟩
                              case measure => simp [intOf]; omega
                          · have d1 : decide (0 < x.lev) = false := by simpa using p1
                            have hM : meet x y = false := by unfold meet; rw [d1]; rfl
                            have HC3 := Lib.hid (HC2.out.step HX.out HY.out hM)
                            clear p1 hM
                            go_wp2_with fail
                            go_quiet (fail)
                            have o9 := o2.dn nq
                            clear d1 x0 x1 x2 x3 x4 y0 y1 y2 y3 y4 HX HY HC HC2 hS
                            go_wp2
                            go_roundw
                            case rel => exact ⟨k + 1, by go_num, by omega, o9, HC3⟩
                            case measure => simp [intOf]; omega
                        · obtain rfl : k = i := by omega
                          have HC3 := Lib.hid (HC.out.step HC2.out)
                          clear HC HC2 HOW HOW2 F6 F7 O6 O7 HX
                          go_wp2
                          go_roundw
                          case rel => exact ⟨k + 1, by go_num, by omega, o3, HC3⟩
                          case measure => simp [intOf]; omega
                    · obtain rfl : i = m'.length := by omega
                      have HR := Lib.hid (show apF s e = (0, ⟨m', e.next, e.fl⟩) by rw [HE.out, clear_no HC.out]; rfl)
                      have HO7 := Lib.hid (HO6.out.old o1)
                      clear HC HE HOW HO6 o1
                      go_wp2
                      refine bodyPost_ret (v := .tuple #[.agg #[.slice (some ⟨g, 0, none⟩) m'.length cap, .int .u64 (e.next : Int), .int .u64 (e.fl : Int)], .int .i64 0]) (by simp [results, Try.results12, go_sem, c0, c1, c2]) rfl ?_
                      rw [HR.out]
                      have q1 := F6.out.2.2
                      have q2 := q1.set_ 0 (.slice (some ⟨g, 0, none⟩) m'.length cap)
                      have q3 := q2.set_ 1 (.int .u64 (e.next : Int))
                      exact ⟨_, rfl, ((O6.st (p := ⟨h + 1 + 1, _, none⟩) HZ _).st (p := ⟨h + 1 + 1, _, none⟩) HZ _).st (p := ⟨h + 1 + 1, _, none⟩) HZ _, ((HO7.out.1.far q1 (by decide) 0 _).far q2 (by decide) 1 _).far q3 (by decide) 2 _⟩
end Go.Proofs.Yteglddggjkibcaa
