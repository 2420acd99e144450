/-
  Names counted in a map: namesOf, drop, add, and the closure that asks it. Conditions: lengths as written.
-/
import Derived.Test.YteglddggjkibcaaFTel
import Derived.Maps.Own
import Derived.Maps.OwnOps
import Derived.Maps.OwnSet
import Derived.Maps.AppendAt
namespace Go.Proofs.Yteglddggjkibcaa
open Go.RowKit Go.Maps

theorem lawS : Keyed Try.prog 9 := string_keyed Try.underlying9
theorem keyS (s : List UInt8) (hs : s.length ≤ 100000) : keyOf Try.prog 9 (.string (B s)) = some (.string s) := by
  have := WideMaps.keyOf_string_mk (k := 9) Try.underlying9 (s := B s) (by simp [ByteArray.size, maxLen]; omega)
  simpa using this
theorem zeroInt (w : World) : (zeroValue 3).run Try.prog w = .ok (.int .i64 0) w := by kernel_rfl
theorem isKey (s : List UInt8) : WideAt.IsKeyLit (.string s) := trivial
theorem key_ne {a b : List UInt8} (h : a ≠ b) : (Lit.string a) ≠ (Lit.string b) := fun e => h (by injection e)
/-- A map of the call's own that tells these numbers. -/
def NM (w : World) (g n : Nat) (F : List UInt8 → Int) : Prop :=
  ∃ D : DataW Unit, w.ownsMap Try.prog 9 (plainElem Try.prog 3) g n D ∧ ∀ s, D.atKey (.string s) (.lit (.int .i64 0)) = .lit (.int .i64 (F s))
theorem ownsMap_old {w W : World} {P : Program} {k : TypeId} {R : Value → Option (DataW Unit × List MemPlace)} {b n : Nat} {D : DataW Unit} (h : w.ownsMap P k R b n D) (hO : Old w W) : W.ownsMap P k R b n D := by
  obtain ⟨es, c, h1, h2⟩ := h
  exact ⟨es, c, (hO.block b (lt_of_block h1)).trans h1, h2⟩
theorem NM.old {w W : World} {g n : Nat} {F : List UInt8 → Int} (h : NM w g n F) (hO : Old w W) : NM W g n F := by
  obtain ⟨D, h1, h2⟩ := h
  exact ⟨D, ownsMap_old h1 hO, h2⟩
theorem NM.lt {w : World} {g n : Nat} {F : List UInt8 → Int} (h : NM w g n F) : g < w.heap.size := by
  obtain ⟨D, h1, h2⟩ := h
  exact h1.lt
theorem NM.eq {w : World} {g n m : Nat} {F G : List UInt8 → Int} (h : NM w g n F) (hF : F = G) (hn : n = m) : NM w g m G := by subst hF hn; exact h
theorem NM.made (w : World) : NM (w.alloc (.map #[] 0)) w.heap.size 0 (fun _ => 0) := ⟨_, World.ownsMap_made _ _ _ _, fun _ => rfl⟩
def upd (F : List UInt8 → Int) (s : List UInt8) (v : Int) : List UInt8 → Int := fun t => if t = s then v else F t
theorem nm_put {w : World} {g n : Nat} {F : List UInt8 → Int} {D : DataW Unit} {s : List UInt8} {v : Int} (ht : Tidy D) (hF : ∀ s, D.atKey (.string s) (.lit (.int .i64 0)) = .lit (.int .i64 (F s)))
    (ho : w.ownsMap Try.prog 9 (plainElem Try.prog 3) g n (D.put (.string s) (.lit (.int .i64 v)))) : NM w g n (upd F s v) := by
  refine ⟨_, ho, fun t => ?_⟩
  unfold upd
  by_cases e : t = s
  · subst e
    rw [if_pos rfl, atKey_put_same ht.isMap (isKey t)]
  · rw [if_neg e, atKey_put_other (key_ne e), hF t]
theorem at_inj {a b : Int} {x : DataW Unit} (h : x = .lit (.int .i64 a)) (k : x = .lit (.int .i64 b)) : a = b := by
  rw [h] at k
  injection k with k
  injection k
theorem grown_old {w w' : World} (h : Old w w') (row : Option Nat) : w.grownBy w' row := ⟨h.os, h.tape, h.output, h.size, fun i hi _ => h.block i hi⟩
theorem Old.grown {w w1 w2 : World} (h : Old w w1) {g : Nat} (k : w1.grownBy w2 (some g)) (hg : w.heap.size ≤ g) : Old w w2 :=
  ⟨k.os.trans h.os, k.tape.trans h.tape, k.output.trans h.output, Nat.le_trans h.size k.size, fun i hi => (k.block i (Nat.lt_of_lt_of_le hi h.size) (fun e => by injection e with e; omega)).trans (h.block i hi)⟩
theorem OwnE.grown {e : TypeId} {w w' : World} {base : Nat} {v : Value} {l : List Itm} {g : Nat} (h : OwnE e w base v l) (k : w.grownBy w' (some g)) {n : Nat} {F : List UInt8 → Int} (hm : NM w g n F) : OwnE e w' base v l := by
  refine ⟨h.1, ?_⟩
  rcases h.2 with h1 | ⟨gg, cap, cur, hv, hb1, hg, rest⟩
  · exact .inl h1
  · refine .inr ⟨gg, cap, cur, hv, hb1, (k.block gg (Array.getElem?_eq_some_iff.1 hg).1 (fun e => ?_)).trans hg, rest⟩
    injection e with e
    subst e
    obtain ⟨D, ⟨es, c, h1, -⟩, -⟩ := hm
    rw [hg] at h1
    cases h1
theorem Bk.gmap {w w' : World} {h g : Nat} {t : TypeId} {cs : Array Value} (hb : Bk w h t cs) (k : w.grownBy w' (some g)) {n : Nat} {F : List UInt8 → Int} (hm : NM w g n F) : Bk w' h t cs := by
  refine hb.grown k (fun e => ?_)
  injection e with e
  subst e
  obtain ⟨D, ⟨es, c, h1, -⟩, -⟩ := hm
  unfold Bk at hb
  rw [hb] at h1
  cases h1

/-- How many files have a name. -/
def cnt (l : List Itm) (s : List UInt8) : Int := ((l.countP fun x => x.name == s : Nat) : Int)
theorem cnt_le (l : List Itm) (s : List UInt8) : 0 ≤ cnt l s ∧ cnt l s ≤ l.length := by
  have := List.countP_le_length (p := fun x : Itm => x.name == s) (l := l)
  unfold cnt
  omega
theorem cnt_snoc (l : List Itm) (x : Itm) : upd (cnt l) x.name (cnt l x.name + 1) = cnt (l ++ [x]) := by
  funext t
  unfold upd cnt
  rw [List.countP_append]
  by_cases e : t = x.name
  · subst e; simp
  · rw [if_neg e]
    have : (x.name == t) = false := by simpa using fun h => e h.symm
    simp [this]
set_option maxRecDepth 10000 in
set_option maxHeartbeats 4000000 in
theorem namesOf_any (w : World) (v : Value) (l : List Itm) (h : Itms w v l) (hl : l.length ≤ 50000) (hn : ∀ x ∈ l, x.name.length ≤ 1000) :
    Calls Try.prog 28 #[v] w fun e w' => e = .returned (.map (some w.heap.size)) ∧ Old w w' ∧ NM w' w.heap.size l.length (cnt l) := by
  have hmm := @run_makeMap Try.prog
  obtain ⟨A, cap, rfl, hc⟩ := h.form
  have HI := Lib.hid h
  have HL := Lib.hid hn
  clear h hn
  go_enter Try.func28, Try.ntmps28
  go_wp2_with fail
  have hcm := NM.made w
  have o4 := old_alloc w (.map #[] 0)
  have hgM : w.heap.size ≤ w.heap.size := Nat.le_refl _
  obtain ⟨gM, hgm⟩ : ∃ gM, gM = w.heap.size := ⟨_, rfl⟩
  rw [← hgm] at hcm ⊢
  have HG := Lib.hid hgm
  clear hgM hgm
  go_loopw [9] (fun iv wr => ∃ k : Nat, k ≤ l.length ∧ iv = .int .i64 k ∧ Hid (NM wr gM k (cnt (l.take k))) ∧ Old w wr) (fun iv _ => l.length - (intOf iv).toNat)
  case atStart => exact ⟨0, Nat.zero_le _, rfl, Lib.hid (hcm.eq (by funext s; simp [cnt]) rfl), o4⟩
  case round =>
    clear hcm o4
    obtain ⟨k, hk, rfl, HM, hO⟩ := hrel
    by_cases hlt : k < l.length
    · obtain ⟨x, HX⟩ : ∃ x, Hid (l[k]? = some x) := ⟨l[k], Lib.hid (List.getElem?_eq_getElem hlt)⟩
      obtain ⟨b, off, rfl, hx⟩ := (HI.out.old hO).at_ HX.out
      obtain ⟨x0, x1, x2, x3, x4⟩ := hx.held
      have hM := HM.out.old (old_alloc wr (.cells (icells x) 60))
      obtain ⟨D, hD, hDF⟩ := hM
      have HDF := Lib.hid hDF
      have HT := Lib.hid (hD.tidy lawS)
      have HB := Lib.hid (cnt_le (l.take k) x.name)
      have HLT : Hid ((l.take k).length = k) := Lib.hid (by simp; omega)
      have hkey := keyS x.name (by have := HL.out x (List.mem_of_getElem? HX.out); omega)
      clear hx hDF HM
      go_wp2_with (first
        | (at_lookup; refine wpList_lookup_own_int _ rfl _ _ 67 rfl 9 3 .i64 lawS Try.underlying67 Try.underlying3 (zeroInt _) gM k _ rfl hD _ _ rfl hkey ?_; intro c hat hwc; have HC := Lib.hid (at_inj hat (HDF.out _)); have hb1 : c + 1 ≤ 100000 := (by have h1 := HC.out; have h2 := HB.out; have h3 := HLT.out; omega); have hb2 : 0 ≤ c := (by have h1 := HC.out; have h2 := HB.out; omega); clear hat hwc)
        | (at_mapUpdate; refine wpList_mapUpdate_own _ rfl _ _ _ 67 rfl 9 3 lawS Try.underlying67 _ gM k _ rfl hD (by unfold maxLen; omega) _ _ _ rfl rfl hkey _ [] (plainElem_int Try.underlying3 (WalkArith.wf_i64 (by omega))) ?_; intro w5 hD5 hg5)
        | fail)
      have HN : Hid (NM w5 gM (k + 1) (cnt (l.take (k + 1)))) := Lib.hid (by
        rw [← take_at HX.out, ← cnt_snoc, ← HC.out]
        exact nm_put HT.out HDF.out hD5)
      have o5 : Old w w5 := (hO.al _).grown hg5 (by have := HG.out; omega)
      clear hD5 hg5 hD HDF HT hkey HX x0 x1 x2 x3 x4 HB HC hb1 hb2
      go_wp2
      go_roundw
      case rel => exact ⟨k + 1, by omega, by go_num, HN, o5⟩
      case measure => simp [intOf]; omega
    · obtain rfl : k = l.length := by omega
      have HN : Hid (NM wr gM l.length (cnt l)) := Lib.hid (by have := HM.out; rwa [List.take_length] at this)
      clear HM
      go_wp2
      go_ret
      rw [← HG.out]
      exact ⟨rfl, hO, HN.out⟩
/-- A slice at A of these texts. -/
def Strs (w : World) (A : Option Addr) (cap : Nat) (l : List (List UInt8)) : Prop :=
  l.length ≤ cap ∧ ∀ (i : Nat) (t : List UInt8), l[i]? = some t → t.length ≤ maxLen ∧ ∃ b off, A = some ⟨b, off, none⟩ ∧ w.cell? ⟨b, off + i, none⟩ = some (.string (B t))
theorem Strs.old {w W : World} {A : Option Addr} {cap : Nat} {l : List (List UInt8)} (h : Strs w A cap l) (k : Old w W) : Strs W A cap l := by
  refine ⟨h.1, fun i t ht => ?_⟩
  obtain ⟨h1, b, off, rfl, h2⟩ := h.2 i t ht
  exact ⟨h1, b, off, rfl, cell_old2 h2 k⟩
theorem Strs.none (w : World) : Strs w none 0 [] := ⟨Nat.le_refl _, fun i t ht => by simp at ht⟩
/-- No error where it is so, else this one. -/
def errI (b : Bool) (k : Int) : Int := if b = true then 0 else k
/-- The names that go. -/
def dropF (F : List UInt8 → Int) : List (List UInt8) → Option (List UInt8 → Int)
  | [] => some F
  | d :: r => if F d = 0 then none else dropF (upd F d 0) r
theorem dropF_app (F : List UInt8 → Int) (a b : List (List UInt8)) : dropF F (a ++ b) = (dropF F a).bind fun G => dropF G b := by
  induction a generalizing F with
  | nil => rfl
  | cons d r ih =>
    rw [List.cons_append, dropF, dropF]
    split
    · rfl
    · exact ih _
theorem dropF_no {F G : List UInt8 → Int} {l : List (List UInt8)} {k : Nat} {d : List UInt8} (h : dropF F (l.take k) = some G) (hd : l[k]? = some d) (hG : G d = 0) : dropF F l = none := by
  have e : l = l.take k ++ d :: l.drop (k + 1) := by
    obtain ⟨h1, h2⟩ := List.getElem?_eq_some_iff.1 hd
    rw [← h2, ← List.drop_eq_getElem_cons h1, List.take_append_drop]
  rw [e, dropF_app, h]
  simp [dropF, hG]
theorem dropF_yes {F G : List UInt8 → Int} {l : List (List UInt8)} {k : Nat} {d : List UInt8} (h : dropF F (l.take k) = some G) (hd : l[k]? = some d) (hG : G d ≠ 0) : dropF F (l.take (k + 1)) = some (upd G d 0) := by
  rw [← take_at hd, dropF_app, h]
  simp [dropF, hG]
/-- The names that come. -/
def addF (F : List UInt8 → Int) : List Itm → Option (List UInt8 → Int)
  | [] => some F
  | x :: r => if 0 < F x.name then none else addF (upd F x.name (F x.name + 1)) r
theorem addF_app (F : List UInt8 → Int) (a b : List Itm) : addF F (a ++ b) = (addF F a).bind fun G => addF G b := by
  induction a generalizing F with
  | nil => rfl
  | cons d r ih =>
    rw [List.cons_append, addF, addF]
    split
    · rfl
    · exact ih _
theorem addF_no {F G : List UInt8 → Int} {l : List Itm} {k : Nat} {x : Itm} (h : addF F (l.take k) = some G) (hd : l[k]? = some x) (hG : 0 < G x.name) : addF F l = none := by
  have e : l = l.take k ++ x :: l.drop (k + 1) := by
    obtain ⟨h1, h2⟩ := List.getElem?_eq_some_iff.1 hd
    rw [← h2, ← List.drop_eq_getElem_cons h1, List.take_append_drop]
  rw [e, addF_app, h]
  simp [addF, hG]
theorem addF_yes {F G : List UInt8 → Int} {l : List Itm} {k : Nat} {x : Itm} (h : addF F (l.take k) = some G) (hd : l[k]? = some x) (hG : ¬ 0 < G x.name) : addF F (l.take (k + 1)) = some (upd G x.name (G x.name + 1)) := by
  rw [← take_at hd, addF_app, h]
  simp [addF, hG]
theorem upd_pos {F : List UInt8 → Int} (h : ∀ s, 0 ≤ F s) (s : List UInt8) {v : Int} (hv : 0 ≤ v) : ∀ t, 0 ≤ upd F s v t := fun t => by
  unfold upd
  split
  · exact hv
  · exact h t

set_option maxRecDepth 10000 in
set_option maxHeartbeats 4000000 in
theorem drop_any (W0 w : World) (g n : Nat) (F : List UInt8 → Int) (A : Option Addr) (cap : Nat) (l : List (List UInt8)) (hS : Strs W0 A cap l) (hs : ∀ t ∈ l, t.length ≤ 1000) (hl : l.length ≤ 50000) (o : Old W0 w) (hg : W0.heap.size ≤ g) (hM : NM w g n F) (hn : n ≤ 100000) (r : Option (List UInt8 → Int)) (hr : r = dropF F l) :
    Calls Try.prog 29 #[.map (some g), .slice A l.length cap] w fun e w' => e = .returned (.int .i64 (errI r.isSome 3)) ∧ w.grownBy w' (some g) ∧ Old W0 w' ∧ ∃ (m : Nat) (G : List UInt8 → Int), NM w' g m G ∧ m ≤ n + l.length ∧ (r = none ∨ r = some G) := by
  have HS := Lib.hid hS
  have HL := Lib.hid hs
  have HM0 := Lib.hid hM
  have HR := Lib.hid hr
  clear hS hs hM hr
  go_enter Try.func29, Try.ntmps29
  go_wp2_with fail
  go_loopw [9] (fun iv wr => ∃ (k : Nat) (G : List UInt8 → Int), k ≤ l.length ∧ iv = .int .i64 k ∧ Hid (NM wr g (n + k) G ∧ w.grownBy wr (some g) ∧ dropF F (l.take k) = some G) ∧ Old W0 wr) (fun iv _ => l.length - (intOf iv).toNat)
  case atStart => exact ⟨0, F, Nat.zero_le _, rfl, Lib.hid ⟨HM0.out, grown_old (Old.re _) _, rfl⟩, o⟩
  case round =>
    clear HM0 o
    obtain ⟨k, G, hk, rfl, HM, hO⟩ := hrel
    by_cases hlt : k < l.length
    · obtain ⟨t, HX⟩ : ∃ t, Hid (l[k]? = some t) := ⟨l[k], Lib.hid (List.getElem?_eq_getElem hlt)⟩
      obtain ⟨hln, b, off, rfl, hx⟩ := (HS.out.old hO).2 k t HX.out
      obtain ⟨D, hD, hDF⟩ := HM.out.1
      have HDF := Lib.hid hDF
      have HT := Lib.hid (hD.tidy lawS)
      have hkey := keyS t (by have := HL.out t (List.mem_of_getElem? HX.out); omega)
      clear hDF hln
      obtain ⟨c, hc⟩ : ∃ c, c = G t := ⟨_, rfl⟩
      have HC := Lib.hid hc
      clear hc
      by_cases h0 : c = 0
      · have HE := Lib.hid (dropF_no HM.out.2.2 HX.out (by rw [← HC.out]; exact h0))
        have HZ := Lib.hid HM.out.1
        have HZ2 := Lib.hid HM.out.2.1
        clear HM HT
        subst h0
        go_wp2_with (first
          | (at_lookup; refine wpList_lookup_own_int _ rfl _ _ 67 rfl 9 3 .i64 lawS Try.underlying67 Try.underlying3 (zeroInt _) g (n + k) _ rfl hD _ _ rfl hkey ?_; intro c2 hat hwc; obtain rfl : c2 = 0 := (at_inj hat (HDF.out _)).trans HC.out.symm; clear hat hwc)
          | fail)
        go_ret
        exact ⟨ret_int (by rw [HR.out, HE.out]; rfl), HZ2.out, hO, n + k, G, HZ.out, by omega, .inl (by rw [HR.out, HE.out])⟩
      · have HE := Lib.hid (dropF_yes HM.out.2.2 HX.out (by rw [← HC.out]; exact h0))
        have HZ2 := Lib.hid HM.out.2.1
        clear HM
        go_wp2_with (first
          | (at_lookup; refine wpList_lookup_own_int _ rfl _ _ 67 rfl 9 3 .i64 lawS Try.underlying67 Try.underlying3 (zeroInt _) g (n + k) _ rfl hD _ _ rfl hkey ?_; intro c2 hat hwc; obtain rfl : c2 = c := (at_inj hat (HDF.out _)).trans HC.out.symm; clear hat hwc)
          | (at_mapUpdate; refine wpList_mapUpdate_own _ rfl _ _ _ 67 rfl 9 3 lawS Try.underlying67 _ g (n + k) _ rfl hD (by unfold maxLen; omega) _ _ _ rfl rfl hkey _ [] (plainElem_int Try.underlying3 (WalkArith.wf_i64 (by omega))) ?_; intro w5 hD5 hg5)
          | fail)
        have HN : Hid (NM w5 g (n + (k + 1)) (upd G t 0) ∧ w.grownBy w5 (some g) ∧ dropF F (l.take (k + 1)) = some (upd G t 0)) := Lib.hid ⟨nm_put HT.out HDF.out hD5, HZ2.out.trans hg5, HE.out⟩
        have o5 : Old W0 w5 := hO.grown hg5 hg
        clear hD5 hg5 hD HDF HT hkey HX HC HE HZ2 hx
        go_wp2
        go_roundw
        case rel => exact ⟨k + 1, upd G t 0, by omega, by go_num, HN, o5⟩
        case measure => simp [intOf]; omega
    · obtain rfl : k = l.length := by omega
      obtain ⟨e1, e2, e3⟩ := HM.out
      rw [List.take_length] at e3
      have HE := Lib.hid (And.intro e1 (And.intro e2 e3))
      clear HM e1 e2 e3
      go_wp2
      go_ret
      exact ⟨ret_int (by rw [HR.out, HE.out.2.2]; rfl), HE.out.2.1, hO, n + l.length, G, HE.out.1, Nat.le_refl _, .inr (by rw [HR.out, HE.out.2.2])⟩

set_option maxRecDepth 10000 in
set_option maxHeartbeats 4000000 in
theorem add_any (W0 w : World) (g n : Nat) (F : List UInt8 → Int) (v : Value) (l : List Itm) (hS : Itms W0 v l) (hs : ∀ t ∈ l, t.name.length ≤ 1000) (hl : l.length ≤ 50000) (o : Old W0 w) (hg : W0.heap.size ≤ g) (hM : NM w g n F) (hn : n ≤ 200000) (hF : ∀ s, 0 ≤ F s) (r : Option (List UInt8 → Int)) (hr : r = addF F l) :
    Calls Try.prog 32 #[.map (some g), v] w fun e w' => e = .returned (.int .i64 (errI r.isSome 4)) ∧ w.grownBy w' (some g) ∧ Old W0 w' := by
  obtain ⟨A, cap, rfl, hcp⟩ := hS.form
  have HS := Lib.hid hS
  have HL := Lib.hid hs
  have HM0 := Lib.hid (And.intro hM hF)
  have HR := Lib.hid hr
  clear hS hs hM hF hr
  go_enter Try.func32, Try.ntmps32
  go_wp2_with fail
  go_loopw [9] (fun iv wr => ∃ (k : Nat) (G : List UInt8 → Int), k ≤ l.length ∧ iv = .int .i64 k ∧ Hid (NM wr g (n + k) G ∧ w.grownBy wr (some g) ∧ addF F (l.take k) = some G ∧ ∀ s, 0 ≤ G s) ∧ Old W0 wr) (fun iv _ => l.length - (intOf iv).toNat)
  case atStart => exact ⟨0, F, Nat.zero_le _, rfl, Lib.hid ⟨HM0.out.1, grown_old (Old.re _) _, rfl, HM0.out.2⟩, o⟩
  case round =>
    clear HM0 o
    obtain ⟨k, G, hk, rfl, HM, hO⟩ := hrel
    by_cases hlt : k < l.length
    · obtain ⟨x, HX⟩ : ∃ x, Hid (l[k]? = some x) := ⟨l[k], Lib.hid (List.getElem?_eq_getElem hlt)⟩
      obtain ⟨b, off, rfl, hx⟩ := (HS.out.old hO).at_ HX.out
      obtain ⟨x0, x1, x2, x3, x4⟩ := hx.held
      obtain ⟨D, hD, hDF⟩ := HM.out.1.old (old_alloc wr (.cells (icells x) 60))
      have HDF := Lib.hid hDF
      have HT := Lib.hid (hD.tidy lawS)
      have hkey := keyS x.name (by have := HL.out x (List.mem_of_getElem? HX.out); omega)
      clear hDF hx
      obtain ⟨c, hc⟩ : ∃ c, c = G x.name := ⟨_, rfl⟩
      have HC := Lib.hid hc
      have hc0 : 0 ≤ c := by rw [hc]; exact HM.out.2.2.2 _
      clear hc
      by_cases h0 : 0 < c
      · have HE := Lib.hid (addF_no HM.out.2.2.1 HX.out (by rw [← HC.out]; exact h0))
        have HZ2 := Lib.hid HM.out.2.1
        clear HM HT
        go_wp2_with (first
          | (at_lookup; refine wpList_lookup_own_int _ rfl _ _ 67 rfl 9 3 .i64 lawS Try.underlying67 Try.underlying3 (zeroInt _) g (n + k) _ rfl hD _ _ rfl hkey ?_; intro c2 hat hwc; obtain rfl : c2 = c := (at_inj hat (HDF.out _)).trans HC.out.symm; clear hat hwc)
          | fail)
        go_ret
        exact ⟨ret_int (by rw [HR.out, HE.out]; rfl), HZ2.out.trans (grown_old (old_alloc _ _) _), hO.al _⟩
      · obtain rfl : c = 0 := by omega
        have HE := Lib.hid (addF_yes HM.out.2.2.1 HX.out (by rw [← HC.out]; exact h0))
        have HZ2 := Lib.hid HM.out.2.1
        have HZ3 := Lib.hid (upd_pos HM.out.2.2.2 x.name (v := G x.name + 1) (by have := HC.out; omega))
        clear HM h0
        go_wp2_with (first
          | (at_lookup; refine wpList_lookup_own_int _ rfl _ _ 67 rfl 9 3 .i64 lawS Try.underlying67 Try.underlying3 (zeroInt _) g (n + k) _ rfl hD _ _ rfl hkey ?_; intro c2 hat hwc; obtain rfl : c2 = 0 := (at_inj hat (HDF.out _)).trans HC.out.symm; clear hat hwc)
          | (at_mapUpdate; refine wpList_mapUpdate_own _ rfl _ _ _ 67 rfl 9 3 lawS Try.underlying67 _ g (n + k) _ rfl hD (by unfold maxLen; omega) _ _ _ rfl rfl hkey _ [] (plainElem_int Try.underlying3 (WalkArith.wf_i64 (by omega))) ?_; intro w5 hD5 hg5)
          | fail)
        have HN : Hid (NM w5 g (n + (k + 1)) (upd G x.name (G x.name + 1)) ∧ w.grownBy w5 (some g) ∧ addF F (l.take (k + 1)) = some (upd G x.name (G x.name + 1)) ∧ ∀ s, 0 ≤ upd G x.name (G x.name + 1) s) := Lib.hid ⟨nm_put HT.out HDF.out (by rw [← HC.out]; exact hD5), (HZ2.out.trans (grown_old (old_alloc _ _) _)).trans hg5, HE.out, HZ3.out⟩
        have o5 : Old W0 w5 := (hO.al _).grown hg5 hg
        clear hD5 hg5 hD HDF HT hkey HX HC HE HZ2 HZ3 x0 x1 x2 x3 x4
        go_wp2
        go_roundw
        case rel => exact ⟨k + 1, _, by omega, by go_num, HN, o5⟩
        case measure => simp [intOf]; omega
    · obtain rfl : k = l.length := by omega
      obtain ⟨e1, e2, e3, e4⟩ := HM.out
      rw [List.take_length] at e3
      have HE := Lib.hid (And.intro e2 e3)
      clear HM e1 e2 e3 e4
      go_wp2
      go_ret
      exact ⟨ret_int (by rw [HR.out, HE.out.2]; rfl), HE.out.1, hO⟩

set_option maxHeartbeats 4000000 in
theorem there_any (x : Itm) (w : World) (gb g n : Nat) (F : List UInt8 → Int) (hb : Bk w gb 67 #[.map (some g)]) (hM : NM w g n F) (hs : x.name.length ≤ 1000) :
    Calls Try.prog 31 #[iv x, .pointer (some ⟨gb, 0, none⟩)] w fun e w' => e = .returned (.bool (decide (0 < F x.name))) ∧ Old w w' := by
  obtain ⟨D, hD, hDF⟩ := hM.old (old_alloc w (.cells (icells x) 60))
  have HDF := Lib.hid hDF
  have hkey := keyS x.name (by omega)
  have y0 : (w.alloc (.cells (icells x) 60)).cell? ⟨gb, 0, none⟩ = some (.map (some g)) := Bk.cell (hb.alloc _) 0
  clear hDF hM
  go_enter Try.func31, Try.ntmps31
  go_wp2_with (first
    | (at_lookup; refine wpList_lookup_own_int _ rfl _ _ 67 rfl 9 3 .i64 lawS Try.underlying67 Try.underlying3 (zeroInt _) g n _ rfl hD _ _ rfl hkey ?_; intro c2 hat hwc; have hc := at_inj hat (HDF.out _); clear hat hwc)
    | fail)
  go_ret
  exact ⟨rfl, old_alloc _ _⟩
end Go.Proofs.Yteglddggjkibcaa
