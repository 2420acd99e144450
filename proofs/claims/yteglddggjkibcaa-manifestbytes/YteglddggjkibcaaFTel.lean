/-
  Functions that hand each file to a closure that only reads: IndexFunc, ContainsFunc, those. Conditions: lengths as written.
-/
import Derived.Test.YteglddggjkibcaaFMay
import Derived.Shelf.Abstract
namespace Go.Proofs.Yteglddggjkibcaa
open Go.RowKit Go.Shelf

/-- A closure that tells of each of these files whether it is so, and changes nothing. -/
def Tells (g : Nat) (cb : Array Value) (p : Itm → Bool) (l : List Itm) (w : World) : Prop :=
  ∀ x ∈ l, ∀ W, Old w W → Calls Try.prog g (#[iv x] ++ cb) W fun e w' => e = .returned (.bool (p x)) ∧ Old W w'

theorem any_at {α : Type} {p : α → Bool} {l : List α} {k : Nat} {x : α} (hx : l[k]? = some x) (hp : p x = true) : l.any p = true :=
  List.any_eq_true.2 ⟨x, List.mem_of_getElem? hx, hp⟩
theorem none_step {α : Type} {p : α → Bool} {l : List α} {k : Nat} {x : α} (h : (l.take k).any p = false) (hx : l[k]? = some x) (hp : p x = false) : (l.take (k + 1)).any p = false := by
  rw [← take_at hx, List.any_append, h]
  simp [hp]
set_option maxHeartbeats 4000000 in
theorem index_any (g : Nat) (he : ∀ args w, (callFunc g args).run Try.prog w = .ok (.enter g args) w) (cb : Array Value) (p : Itm → Bool) (w : World) (v : Value) (l : List Itm) (h : Itms w v l) (hl : l.length ≤ 100000) (hf : Tells g cb p l w) :
    Calls Try.prog 71 #[v, .func (.func g) #[] cb] w fun e w' => (∃ r : Int, e = .returned (.int .i64 r) ∧ decide (0 ≤ r) = l.any p) ∧ Old w w' := by
  obtain ⟨A, cap, rfl, hc⟩ := h.form
  have HI := Lib.hid h
  have HF := Lib.hid hf
  clear h hf
  go_enter Try.func71, Try.ntmps71
  go_wp2_with fail
  go_loopw [8] (fun iv wr => ∃ k : Nat, iv = .int .i64 k ∧ k ≤ l.length ∧ Old w wr ∧ Hid ((l.take k).any p = false)) (fun iv _ => l.length - (intOf iv).toNat)
  case atStart => exact ⟨0, rfl, Nat.zero_le _, Old.re _, Lib.hid (by simp)⟩
  case round =>
    obtain ⟨k, rfl, hk, o1, HN⟩ := hrel
    by_cases hlt : k < l.length
    · obtain ⟨x, HX⟩ : ∃ x, Hid (l[k]? = some x) := ⟨l[k], Lib.hid (List.getElem?_eq_getElem hlt)⟩
      obtain ⟨b, off, rfl, hx⟩ := (HI.out.old o1).at_ HX.out
      obtain ⟨x0, x1, x2, x3, x4⟩ := hx.held
      have HC := Lib.hid (HF.out x (List.mem_of_getElem? HX.out) wr o1)
      go_wp2_with fail
      refine HC.out.mono ?_
      rintro e w2 ⟨rfl, o2⟩
      have o3 := o1.tr o2
      clear x0 x1 x2 x3 x4 hx HC
      cases hp : p x with
      | false =>
        have HN2 := Lib.hid (none_step HN.out HX.out hp)
        clear hp HX HN
        go_wp2
        go_round
        case rel => exact ⟨k + 1, by go_num, by omega, o3, HN2⟩
        case measure => simp [intOf]; omega
      | true =>
        have HA := Lib.hid (any_at HX.out hp)
        clear hp HX HN
        go_wp2
        go_ret
        exact ⟨⟨_, rfl, by rw [HA.out]; simp⟩, o3⟩
    · obtain rfl : k = l.length := by omega
      have HE := Lib.hid (show l.any p = false by have := HN.out; rwa [List.take_length] at this)
      clear HN
      go_wp2
      go_ret
      exact ⟨⟨_, rfl, by rw [HE.out]; simp⟩, o1⟩
set_option maxHeartbeats 1000000 in
theorem contains_any (g : Nat) (he : ∀ args w, (callFunc g args).run Try.prog w = .ok (.enter g args) w) (cb : Array Value) (p : Itm → Bool) (w : World) (v : Value) (l : List Itm) (h : Itms w v l) (hl : l.length ≤ 100000) (hf : Tells g cb p l w) :
    Calls Try.prog 59 #[v, .func (.func g) #[] cb] w fun e w' => e = .returned (.bool (l.any p)) ∧ Old w w' := by
  have C := index_any g he cb p w v l h hl hf
  clear h hf
  go_enter Try.func59, Try.ntmps59
  go_wp2_with (go_at_call 71; refine C.mono ?_; rintro e w1 ⟨⟨r, rfl, hr⟩, o1⟩)
  go_ret
  exact ⟨rfl, o1⟩
set_option maxHeartbeats 1000000 in
theorem allMay1_any (x : Itm) (w : World) :
    Calls Try.prog 60 #[iv x] w fun e w' => e = .returned (.bool (!mayF x)) ∧ Old w w' := by
  go_enter Try.func60, Try.ntmps60
  go_wp2_with (go_at_call 26; refine (may_any x _).mono ?_; rintro e w1 ⟨rfl, o1⟩)
  go_ret
  exact ⟨rfl, (old_alloc _ _).tr o1⟩
theorem not_any {α : Type} (p : α → Bool) (l : List α) : (!l.any fun x => !p x) = l.all p := by
  induction l with
  | nil => rfl
  | cons x l ih => rw [List.any_cons, List.all_cons, ← ih]; cases p x <;> simp
set_option maxHeartbeats 1000000 in
theorem allMay_any (w : World) (v : Value) (l : List Itm) (h : Itms w v l) (hl : l.length ≤ 100000) :
    Calls Try.prog 27 #[v] w fun e w' => e = .returned (.bool (l.all mayF)) ∧ Old w w' := by
  have C := contains_any 60 (fun args w => by kernel_rfl) #[] (fun x => !mayF x) w v l h hl (fun x _ W _ => allMay1_any x W)
  clear h
  go_enter Try.func27, Try.ntmps27
  go_wp2_with (go_at_call 59; refine C.mono ?_; rintro e w1 ⟨rfl, o1⟩)
  go_ret
  exact ⟨ret_bool (not_any _ _), o1⟩
set_option maxHeartbeats 4000000 in
theorem those_any (g : Nat) (he : ∀ args w, (callFunc g args).run Try.prog w = .ok (.enter g args) w) (cb : Array Value) (p : Itm → Bool) (w : World) (v : Value) (l : List Itm) (h : Itms w v l) (hl : l.length ≤ 50000) (hf : Tells g cb p l w) :
    Calls Try.prog 30 #[v, .func (.func g) #[] cb] w fun e w' => ∃ u, e = .returned u ∧ OwnE 60 w' w.heap.size u (l.filter p) ∧ Old w w' := by
  obtain ⟨A, cap, rfl, hc⟩ := h.form
  have HI := Lib.hid h
  have HF := Lib.hid hf
  clear h hf
  go_enter Try.func30, Try.ntmps30
  go_wp2_with fail
  go_loopw [5, 10] (fun ov iv wr => ∃ k : Nat, iv = .int .i64 k ∧ k ≤ l.length ∧ Old w wr ∧ Hid (OwnE 60 wr w.heap.size ov ((l.take k).filter p))) (fun _ iv _ => l.length - (intOf iv).toNat)
  case atStart => exact ⟨0, rfl, Nat.zero_le _, Old.re _, Lib.hid (OwnE.nil _ _ _)⟩
  case round =>
    obtain ⟨k, rfl, hk, o1, HO⟩ := hrel
    by_cases hlt : k < l.length
    · obtain ⟨x, HX⟩ : ∃ x, Hid (l[k]? = some x) := ⟨l[k], Lib.hid (List.getElem?_eq_getElem hlt)⟩
      obtain ⟨b, off, rfl, hx⟩ := (HI.out.old o1).at_ HX.out
      obtain ⟨x0, x1, x2, x3, x4⟩ := hx.held
      have HC := Lib.hid (HF.out x (List.mem_of_getElem? HX.out))
      go_wp2_with fail
      refine (HC.out _ (o1.al _)).mono ?_
      rintro e w2 ⟨rfl, o2⟩
      have o3 := (o1.al _).tr o2
      have hb := (new_bk wr 60 (icells x)).old o2
      have ho : OwnE 60 w2 w.heap.size u5 ((l.take k).filter p) := HO.out.old ((old_alloc _ _).tr o2)
      have HO2 := Lib.hid ho
      clear x0 x1 x2 x3 x4 hx HC HO ho
      cases hp : p x with
      | false =>
        have HN2 : Hid (OwnE 60 w2 w.heap.size u5 ((l.take (k + 1)).filter p)) := Lib.hid (by
          rw [← take_at HX.out, List.filter_append, List.filter_cons_of_neg (by simp [hp])]
          simpa using HO2.out)
        clear hp HX HO2 hb
        go_wp2
        go_roundw
        case rel => exact ⟨k + 1, by go_num, by omega, o3, HN2⟩
        case measure => simp [intOf]; omega
      | true =>
        obtain ⟨y0, y1, y2, y3, y4⟩ := hb.five
        have hl2 : ((l.take k).filter p).length ≤ 50000 := by
          have := List.length_filter_le p (l.take k)
          simp at this
          omega
        have HL := Lib.hid hl2
        clear hl2
        go_wp2_with (at_builtin; refine wp_its rfl (.tmp 17) (.tmp 19) 24 60 Try.underlying24 Try.infoItem rfl (W0 := w) (o3.al _) _ ((l.take k).filter p) [x] rfl (HO2.out.old (old_alloc _ _)) _ rfl (one_its (new_bk _ _ _)) (by have := HL.out; simp only [List.length_cons, List.length_nil]; omega) ?_; intro v8 w8 n8 o8; refine Hid.out ?_)
        have HN2 : Hid (OwnE 60 w8 w.heap.size v8 ((l.take (k + 1)).filter p)) := Lib.hid (by
          rw [← take_at HX.out, List.filter_append, List.filter_cons_of_pos (by simp [hp])]
          simpa using n8)
        clear n8 hp HX HO2 hb y0 y1 y2 y3 y4 HL
        refine Lib.hid ?_
        go_wp2
        go_roundw
        case rel => exact ⟨k + 1, by go_num, by omega, o8, HN2⟩
        case measure => simp [intOf]; omega
    · obtain rfl : k = l.length := by omega
      have HE := HO.out
      rw [List.take_length] at HE
      have HE2 := Lib.hid HE
      clear HO HE
      go_wp2
      go_ret
      exact ⟨_, rfl, HE2.out, o1⟩
end Go.Proofs.Yteglddggjkibcaa
