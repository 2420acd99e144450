/-
  Pass, All, Cells, Sort. Conditions: lengths as written.
-/
import Derived.Test.YtbccpplpfcfboaaMPas
import Derived.Test.YtbccpplpfcfboaaMCon
import Derived.Test.YtbccpplpfcfboaaRRmk
namespace Go.Proofs.Ytbccpplpfcfboaa
open Go.RowKit

/-- A row of slices reads as lists. -/
theorem RowL.lsts {w : World} {u : Value} {n : Nat} {P : Nat → List Itm} (h : RowL w u n P) : ∃ Ls, Ls.length = n ∧ Lsts w u Ls ∧ ∀ i out, Ls[i]? = some out → IsRes (P i) out ∧ out.length ≤ (P i).length := by
  obtain ⟨base, vs, h1, h2, h3⟩ := h
  have h4 : ∀ i : Fin n, ∃ out, IsRes (P i.1) out ∧ out.length ≤ (P i.1).length ∧ Rit w (vs[i.1]'(by rw [h2]; exact i.2)) out := fun i => h3 i.1 _ (List.getElem?_eq_getElem (by rw [h2]; exact i.2))
  have key : ∀ (i : Nat) (L : List Itm), (List.ofFn fun i => Classical.choose (h4 i))[i]? = some L → ∃ hi : i < n, L = Classical.choose (h4 ⟨i, hi⟩) := fun i L hL => by
    obtain ⟨hi, e⟩ := List.getElem?_eq_some_iff.1 hL
    rw [List.length_ofFn] at hi
    refine ⟨hi, ?_⟩
    rw [← e, List.getElem_ofFn]
  refine ⟨List.ofFn fun i => Classical.choose (h4 i), List.length_ofFn, ?_, fun i out ho => ?_⟩
  · rcases h1.2 with ⟨rfl, h0⟩ | ⟨g, cap, cur, rfl, hb, hg, hnc, hcm, hcs, htake⟩
    · subst h0
      exact .inl ⟨rfl, by simp⟩
    · refine .inr ⟨⟨g, 0, none⟩, cap, by rw [List.length_ofFn], by rw [List.length_ofFn]; exact hnc, fun _ => ⟨g, 0, rfl, fun i L hL => ?_⟩⟩
      obtain ⟨hi, rfl⟩ := key i L hL
      have hx : vs[i]? = some (vs[i]'(by omega)) := List.getElem?_eq_getElem (by omega)
      have hc := World.ownsRow.cells h1 (g := g) rfl i _ hx
      rw [Addr.add_lit] at hc
      exact ⟨_, hc, (Classical.choose_spec (h4 ⟨i, hi⟩)).2.2.its⟩
  · obtain ⟨hi, rfl⟩ := key i out ho
    have := Classical.choose_spec (h4 ⟨i, hi⟩)
    exact ⟨this.1, this.2.1⟩
theorem pass_flat_le {Ls Ls' : List (List Itm)} {m : Nat} (hl : Ls'.length = many Ls.length m) (h : ∀ i out, Ls'[i]? = some out → out.length ≤ (grp Ls m i).flatten.length) : Ls'.flatten.length ≤ Ls.flatten.length := by
  have key : ∀ j, j ≤ Ls'.length → (Ls'.take j).flatten.length ≤ (Ls.take (j * m)).flatten.length := by
    intro j
    induction j with
    | zero => intro _; simp
    | succ j ih =>
      intro hj
      have e1 := List.take_succ_eq_append_getElem (l := Ls') (i := j) (by omega)
      have e2 : Ls.take ((j + 1) * m) = Ls.take (j * m) ++ grp Ls m j := by
        rw [grp, Nat.add_mul, Nat.one_mul, List.take_add]
      have h1 := ih (by omega)
      have h2 := h j _ (List.getElem?_eq_getElem (by omega))
      rw [e1, e2, List.flatten_append, List.flatten_append, List.length_append, List.length_append]
      simp only [List.flatten_cons, List.flatten_nil, List.append_nil]
      omega
  have h1 := key Ls'.length (Nat.le_refl _)
  rw [List.take_length] at h1
  have h2 : Ls = Ls.take (Ls'.length * m) ++ Ls.drop (Ls'.length * m) := (List.take_append_drop _ _).symm
  have h3 := congrArg (fun l => l.flatten.length) h2
  simp only [List.flatten_append, List.length_append] at h3
  omega
/-- Pass: two lists at a time, or more. -/
theorem pass_any (w : World) (v : Value) (Ls : List (List Itm)) (h : Lsts w v Ls) (hl : Ls.length ≤ 40000) (ht : Ls.flatten.length ≤ 49000) (hs : ∀ L ∈ Ls, Strict L) (m : Nat) (hm : 2 ≤ m) (hm2 : m ≤ 9223372036854775807) :
    Calls Try.prog 15 #[v, .int .i64 (m : Int)] w fun e W' => ∃ u Ls', e = .returned (.tuple #[u, .int .i64 0]) ∧ PassR Ls m Ls' ∧ Lsts W' u Ls' ∧ Ls'.flatten.length ≤ Ls.flatten.length ∧ Old w W' :=
  ((callsIn_wide (n := 3)).1 (pass_in 3 (by omega) w v Ls h hl ht hs m hm hm2)).mono fun e W' ⟨u, h1, h2, h3⟩ => by
    obtain ⟨Ls', p1, p2, p3⟩ := h2.lsts
    exact ⟨u, Ls', h1, ⟨p1, fun i out ho => (p3 i out ho).1⟩, p2, pass_flat_le p1 fun i out ho => (p3 i out ho).2, h3⟩
set_option maxHeartbeats 2000000 in
theorem pass_narrow (v : Value) (m : Int) (hm : m < 2) (w : World) :
    Calls Try.prog 15 #[v, .int .i64 m] w fun e W' => e = .returned (.tuple #[.slice none 0 0, .int .i64 1]) ∧ Old w W' := by
  go_enter Try.func15, Try.ntmps15
  go_wp2
  exact bodyPost_ret (results_tmp2 rfl _ _ _) rfl ⟨rfl, Old.re _⟩
set_option maxHeartbeats 2000000 in
theorem pass_order (w : World) (v : Value) (Ls : List (List Itm)) (h : Lsts w v Ls) (hl : Ls.length ≤ 40000) (ht : ∀ L ∈ Ls, L.length ≤ 100000) (hs : allB Ls = false) (m : Int) (hm : ¬ m < 2) :
    Calls Try.prog 15 #[v, .int .i64 m] w fun e W' => e = .returned (.tuple #[.slice none 0 0, .int .i64 40]) ∧ Old w W' := by
  have C := allSorted_any w v Ls h (by omega) ht
  rw [hs] at C
  clear h hs
  go_enter Try.func15, Try.ntmps15
  go_wp2_with fail
  refine C.mono ?_
  clear C
  rintro e w1 ⟨rfl, o1⟩
  go_wp2
  exact bodyPost_ret (results_tmp2 rfl _ _ _) rfl ⟨rfl, o1⟩

set_option maxHeartbeats 4000000 in
theorem all_err (w : World) (v : Value) (n : Nat) (A : Option Addr) (cap : Nat) (hv : v = .slice A n cap) (m : Int) (e : Int) (he : e = 1 ∨ e = 40)
    (C : Calls Try.prog 15 #[v, .int .i64 m] w fun r W' => r = .returned (.tuple #[.slice none 0 0, .int .i64 e]) ∧ Old w W') :
    Calls Try.prog 19 #[v, .int .i64 m] w fun r W' => r = .returned (.tuple #[.slice none 0 0, .int .i64 0, .int .i64 e]) ∧ Old w W' := by
  subst hv
  rcases he with rfl | rfl
  all_goals
    go_enter Try.func19, Try.ntmps19
    go_wp2_with fail
    refine wp_loop_rounds 1 ?_
    rw [rounds_succ]
    go_wp2_with fail
    refine C.mono ?_
    clear C
    rintro r w1 ⟨rfl, o1⟩
    go_wp2
    exact bodyPost_ret (results_tmp3 rfl _ _ _) rfl ⟨rfl, o1⟩

set_option maxHeartbeats 8000000 in
theorem all_any (w : World) (v : Value) (Ls : List (List Itm)) (h : Lsts w v Ls) (hl : Ls.length ≤ 40000) (ht : Ls.flatten.length ≤ 49000) (hs : ∀ L ∈ Ls, Strict L) (m : Nat) (hm : 2 ≤ m) (hm2 : m ≤ 9223372036854775807) :
    Calls Try.prog 19 #[v, .int .i64 (m : Int)] w fun e W' => ∃ u out p, e = .returned (.tuple #[u, .int .i64 ((p : Nat) : Int), .int .i64 0]) ∧ AllR m Ls out p ∧ Itms W' u out ∧ out.length ≤ Ls.flatten.length ∧ Old w W' := by
  obtain ⟨A, cap, rfl, hc⟩ := h.form
  have HI := Lib.hid (And.intro h hs)
  clear h hs
  go_enter Try.func19, Try.ntmps19
  go_wp2_with fail
  go_loopw [0, 7] (fun lv pv wr => ∃ (p : Nat) (Lp : List (List Itm)) (A' : Option Addr) (c' : Nat), lv = .slice A' Lp.length c' ∧ pv = .int .i64 p ∧ p + Lp.length ≤ Ls.length ∧ Old w wr ∧ Hid (Lsts wr lv Lp ∧ (∀ L ∈ Lp, Strict L) ∧ Lp.flatten.length ≤ Ls.flatten.length ∧ ∀ out q, AllR m Lp out q → AllR m Ls out (p + q))) (fun lv _ _ => match lv with | .slice _ q _ => q | _ => 0)
  case atStart => exact ⟨0, Ls, A, cap, rfl, rfl, by omega, Old.re _, Lib.hid ⟨HI.out.1, HI.out.2, Nat.le_refl _, fun out q hq => by rw [Nat.zero_add]; exact hq⟩⟩
  case round =>
    obtain ⟨p, Lp, A', c', rfl, rfl, hp, o1, HP⟩ := hrel
    have C := pass_any wr _ Lp HP.out.1 (by omega) (by have := HP.out.2.2.1; omega) HP.out.2.1 m hm hm2
    go_wp2_with fail
    refine C.mono ?_
    clear C
    rintro e w1 ⟨u, Ln, rfl, h1, h2, h3, o2⟩
    obtain ⟨A2, c2, rfl, hc2⟩ := h2.form
    have o3 := o1.tr o2
    by_cases hlt : Lp.length < 2
    · have HE := Lib.hid (And.intro (pass_one hm h1 hlt HP.out.2.1) (And.intro h2 (HP.out.2.2.2 _ _ (AllR.stop Lp hlt))))
      have C := concat_any w1 _ Ln h2 (by have := h1.1; have := many_one hm hlt; omega) (by have := HP.out.2.2.1; omega)
      clear h1 h2 h3
      go_wp2_with fail
      refine C.mono ?_
      clear C
      rintro e w2 ⟨u2, rfl, o4, ow⟩
      have HO := Lib.hid ow
      clear ow
      go_wp2
      refine bodyPost_ret (results_tmp3 rfl _ _ _) rfl ⟨u2, Lp.flatten, p, rfl, HE.out.2.2, ?_, HP.out.2.2.1, o3.tr o4⟩
      have := HO.out.its
      rwa [HE.out.1] at this
    · have hmany : Ln.length + 1 ≤ Lp.length := by
        have := h1.1
        have := many_half (n := Lp.length) hm
        omega
      have HE : Hid (Lsts w1 (.slice A2 Ln.length c2) Ln ∧ (∀ L ∈ Ln, Strict L) ∧ Ln.flatten.length ≤ Ls.flatten.length ∧ ∀ out q, AllR m Ln out q → AllR m Ls out (p + 1 + q)) := Lib.hid ⟨h2, h1.strict, by have := HP.out.2.2.1; omega, fun out q hq => by
        rw [show p + 1 + q = p + (q + 1) by omega]
        exact HP.out.2.2.2 _ _ (AllR.step Lp Ln out q (by omega) h1 hq)⟩
      clear h1 h2 h3 HP
      go_wp2
      go_round
      case rel => exact ⟨p + 1, Ln, A2, c2, rfl, by go_num, by omega, o3, HE⟩
      case measure => (show Ln.length < Lp.length; omega)
end Go.Proofs.Ytbccpplpfcfboaa
