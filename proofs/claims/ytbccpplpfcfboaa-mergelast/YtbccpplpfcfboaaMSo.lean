/-
  Sort of the code and of the reference. Conditions: lengths as written.
-/
import Derived.Test.YtbccpplpfcfboaaMRfa
namespace Go.Proofs.Ytbccpplpfcfboaa
open Go.RowKit

theorem many_le {N m : Nat} (hm : 1 ≤ m) : many N m ≤ N := by
  rcases Nat.lt_or_ge N (many N m) with h | h
  · have := (many_lt hm).1 h
    have := Nat.le_mul_of_pos_right N hm
    omega
  · exact h
/-- What runs of an input are. -/
def RunsR (l : List Itm) (m : Nat) (Ls : List (List Itm)) : Prop := Ls.length = many l.length m ∧ ∀ i out, Ls[i]? = some out → IsRes (part l m i) out ∧ out.length ≤ (part l m i).length
theorem RunsR.uniq {l : List Itm} {m : Nat} {a b : List (List Itm)} (h1 : RunsR l m a) (h2 : RunsR l m b) : a = b := by
  refine List.ext_getElem? fun i => ?_
  rcases Nat.lt_or_ge i a.length with hi | hi
  · have hj : i < b.length := by rw [h2.1, ← h1.1]; exact hi
    rw [List.getElem?_eq_getElem hi, List.getElem?_eq_getElem hj]
    rw [(h1.2 i _ (List.getElem?_eq_getElem hi)).1.uniq (h2.2 i _ (List.getElem?_eq_getElem hj)).1]
  · rw [List.getElem?_eq_none hi, List.getElem?_eq_none (by rw [h2.1, ← h1.1]; exact hi)]
theorem RunsR.strict {l : List Itm} {m : Nat} {Ls : List (List Itm)} (h : RunsR l m Ls) : ∀ L ∈ Ls, Strict L := fun L hL => by
  obtain ⟨i, hi, rfl⟩ := List.getElem_of_mem hL
  exact (h.2 i _ (List.getElem?_eq_getElem hi)).1.1
theorem part_next (l : List Itm) (m j : Nat) : l.take ((j + 1) * m) = l.take (j * m) ++ part l m j := by
  rw [part, Nat.add_mul, Nat.one_mul, List.take_add]
theorem RunsR.flat_le {l : List Itm} {m : Nat} {Ls : List (List Itm)} (h : RunsR l m Ls) : Ls.flatten.length ≤ l.length := by
  have key : ∀ j, j ≤ Ls.length → (Ls.take j).flatten.length ≤ (l.take (j * m)).length := by
    intro j
    induction j with
    | zero => intro _; simp
    | succ j ih =>
      intro hj
      have h1 := ih (by omega)
      have h2 := (h.2 j _ (List.getElem?_eq_getElem (by omega))).2
      rw [List.take_succ_eq_append_getElem (by omega), part_next, List.flatten_append, List.length_append, List.length_append]
      simp only [List.flatten_cons, List.flatten_nil, List.append_nil]
      omega
  have h1 := key Ls.length (Nat.le_refl _)
  rw [List.take_length, List.length_take] at h1
  omega
theorem RunsR.best {l : List Itm} {m : Nat} {Ls : List (List Itm)} (hm : 1 ≤ m) (h : RunsR l m Ls) (k : Itm) : best Ls.flatten k = best l k := by
  have key : ∀ j, j ≤ Ls.length → Go.Proofs.Ytbccpplpfcfboaa.best (Ls.take j).flatten k = Go.Proofs.Ytbccpplpfcfboaa.best (l.take (j * m)) k := by
    intro j
    induction j with
    | zero => intro _; simp
    | succ j ih =>
      intro hj
      rw [List.take_succ_eq_append_getElem (by omega), part_next, List.flatten_append, best_app, best_app, ih (by omega)]
      congr 1
      simp only [List.flatten_cons, List.flatten_nil, List.append_nil]
      exact (h.2 j _ (List.getElem?_eq_getElem (by omega))).1.2 k
  have h1 := key Ls.length (Nat.le_refl _)
  rw [List.take_length] at h1
  rw [h1]
  congr 1
  apply List.take_of_length_le
  rw [h.1]
  rcases Nat.lt_or_ge (many l.length m * m) l.length with q | q
  · exact absurd ((many_lt hm).2 q) (Nat.lt_irrefl _)
  · exact q
/-- What stays is no more than there was. -/
theorem IsRes.len_le {l out : List Itm} (h : IsRes l out) : out.length ≤ l.length := by
  refine List.Nodup.length_le_of_subset (h.1.imp fun {a b} hab e => ?_) fun x hx => ?_
  · subst e
    rw [cmpK_refl] at hab
    cases hab
  · have h1 := (mem_strict h.1 x).1 hx
    rw [h.2] at h1
    exact (best_some h1).1
/-- What Sort makes of cells. -/
def SortR (l : List Cel) (a b : Nat) (out : List Itm) (p : Nat) : Prop := ∃ Ls, RunsR (itemsOf l) a Ls ∧ AllR b Ls out p
theorem SortR.uniq {l : List Cel} {a b p q : Nat} {o1 o2 : List Itm} (h1 : SortR l a b o1 p) (h2 : SortR l a b o2 q) : o1 = o2 ∧ p = q := by
  obtain ⟨L1, r1, s1⟩ := h1
  obtain ⟨L2, r2, s2⟩ := h2
  rw [r1.uniq r2] at s1
  exact s1.uniq s2
theorem SortR.res {l : List Cel} {a b p : Nat} {out : List Itm} (ha : 1 ≤ a) (hb : 1 ≤ b) (h : SortR l a b out p) : IsRes (itemsOf l) out := by
  obtain ⟨Ls, r, s⟩ := h
  have h1 := s.res hb r.strict
  exact ⟨h1.1, fun k => (h1.2 k).trans (r.best ha k)⟩
theorem make_bad (v : Value) (m : Int) (hm : m < 1) (w : World) :
    Calls Try.prog 25 #[v, .int .i64 m] w fun e W' => e = .returned (.tuple #[.slice none 0 0, .int .i64 1]) ∧ Old w W' := by
  go_enter Try.func25, Try.ntmps25
  go_wp2
  exact bodyPost_ret (results_tmp2 rfl _ _ _) rfl ⟨rfl, Old.re _⟩
theorem rmake_bad (v : Value) (m : Int) (hm : m < 1) (w : World) :
    Calls Try.prog 26 #[v, .int .i64 m] w fun e W' => e = .returned (.tuple #[.slice none 0 0, .int .i64 1]) ∧ Old w W' := by
  go_enter Try.func26, Try.ntmps26
  go_wp2
  exact bodyPost_ret (results_tmp2 rfl _ _ _) rfl ⟨rfl, Old.re _⟩

set_option maxHeartbeats 4000000 in
theorem sort_any (w : World) (v : Value) (l : List Cel) (h : Cels w v l) (hl : l.length ≤ 29000) (a b : Nat) (ha : 1 ≤ a) (ha2 : a ≤ 9223372036854775807) (hb : 2 ≤ b) (hb2 : b ≤ 9223372036854775807) :
    Calls Try.prog 10 #[v, .int .i64 (a : Int), .int .i64 (b : Int)] w fun e W' => ∃ u out p, e = .returned (.tuple #[u, .int .i64 ((p : Nat) : Int), .int .i64 0]) ∧ SortR l a b out p ∧ Cels W' u (out.map (·.c)) ∧ Old w W' := by
  have C := make_any w v l h (by omega) a ha ha2
  obtain ⟨A, cap, rfl, hc⟩ := h.form
  clear h
  go_enter Try.func10, Try.ntmps10
  go_wp2_with fail
  refine C.mono ?_
  clear C
  rintro e w1 ⟨u1, rfl, hm, o1⟩
  obtain ⟨Ls, p1, p2, p3⟩ := (show RowL w1 u1 (many (itemsOf l).length a) (fun i => part (itemsOf l) a i) from hm).lsts
  have HR : Hid (RunsR (itemsOf l) a Ls) := Lib.hid ⟨p1, p3⟩
  have hle := HR.out.flat_le
  rw [itemsOf_len] at hle
  have hlen : Ls.length ≤ 29000 := by rw [p1, itemsOf_len]; have := many_le (N := l.length) ha; omega
  have C := all_any w1 u1 Ls p2 (by omega) (by omega) HR.out.strict b hb hb2
  obtain ⟨A1, c1, rfl, -⟩ := p2.form
  clear hm p1 p2 p3
  go_wp2_with fail
  refine C.mono ?_
  clear C
  rintro e w2 ⟨u2, out, p, rfl, r1, r2, r3, o2⟩
  have C := mcells_any w2 u2 out r2 (by omega)
  obtain ⟨A2, c2, rfl, -⟩ := r2.form
  have HE := Lib.hid r1
  clear r1 r2
  go_wp2_with fail
  refine C.mono ?_
  clear C
  rintro e w3 ⟨u3, rfl, o3, hcl⟩
  have HC := Lib.hid hcl
  clear hcl
  go_wp2
  exact bodyPost_ret (results_tmp3 rfl _ _ _) rfl ⟨u3, out, p, rfl, ⟨Ls, HR.out, HE.out⟩, HC.out, (o1.tr o2).tr o3⟩
set_option maxHeartbeats 4000000 in
theorem sort_small (v : Value) (a b : Int) (ha : a < 1) (w : World) :
    Calls Try.prog 10 #[v, .int .i64 a, .int .i64 b] w fun e W' => e = .returned (.tuple #[.slice none 0 0, .int .i64 0, .int .i64 1]) ∧ Old w W' := by
  have C := make_bad v a ha w
  go_enter Try.func10, Try.ntmps10
  go_wp2_with fail
  refine C.mono ?_
  clear C
  rintro e w1 ⟨rfl, o1⟩
  go_wp2
  exact bodyPost_ret (results_tmp3 rfl _ _ _) rfl ⟨rfl, o1⟩
set_option maxHeartbeats 4000000 in
theorem sort_narrow (w : World) (v : Value) (l : List Cel) (h : Cels w v l) (hl : l.length ≤ 29000) (a : Nat) (b : Int) (ha : 1 ≤ a) (ha2 : a ≤ 9223372036854775807) (hb : b < 2) :
    Calls Try.prog 10 #[v, .int .i64 (a : Int), .int .i64 b] w fun e W' => ∃ u, e = .returned (.tuple #[u, .int .i64 0, .int .i64 1]) ∧ Cels W' u [] ∧ Old w W' := by
  have C := make_any w v l h (by omega) a ha ha2
  obtain ⟨A, cap, rfl, hc⟩ := h.form
  clear h
  go_enter Try.func10, Try.ntmps10
  go_wp2_with fail
  refine C.mono ?_
  clear C
  rintro e w1 ⟨u1, rfl, hm, o1⟩
  obtain ⟨Ls, p1, p2, p3⟩ := (show RowL w1 u1 (many (itemsOf l).length a) (fun i => part (itemsOf l) a i) from hm).lsts
  obtain ⟨A1, c1, rfl, -⟩ := p2.form
  have C := all_err w1 _ Ls.length A1 c1 rfl b 1 (.inl rfl) (pass_narrow _ b hb w1)
  clear hm p1 p2 p3
  go_wp2_with fail
  refine C.mono ?_
  clear C
  rintro e w2 ⟨rfl, o2⟩
  have C := mcells_any w2 (.slice none 0 0) [] (.inl ⟨rfl, rfl⟩) (by simp)
  go_wp2_with fail
  refine C.mono ?_
  clear C
  rintro e w3 ⟨u3, rfl, o3, hcl⟩
  have HC := Lib.hid hcl
  clear hcl
  go_wp2
  exact bodyPost_ret (results_tmp3 rfl _ _ _) rfl ⟨u3, rfl, HC.out, (o1.tr o2).tr o3⟩
set_option maxHeartbeats 4000000 in
theorem rsort_any (w : World) (v : Value) (l : List Cel) (h : Cels w v l) (hl : l.length ≤ 29000) (a b : Nat) (ha : 1 ≤ a) (ha2 : a ≤ 9223372036854775807) (hb : 2 ≤ b) (hb2 : b ≤ 9223372036854775807) :
    Calls Try.prog 11 #[v, .int .i64 (a : Int), .int .i64 (b : Int)] w fun e W' => ∃ u out p, e = .returned (.tuple #[u, .int .i64 ((p : Nat) : Int), .int .i64 0]) ∧ SortR l a b out p ∧ Cels W' u (out.map (·.c)) ∧ Old w W' := by
  have C := rmake_any w v l h (by omega) a ha ha2
  obtain ⟨A, cap, rfl, hc⟩ := h.form
  clear h
  go_enter Try.func11, Try.ntmps11
  go_wp2_with fail
  refine C.mono ?_
  clear C
  rintro e w1 ⟨u1, rfl, hm, o1⟩
  obtain ⟨Ls, p1, p2, p3⟩ := (show RowR w1 u1 (many (itemsOf l).length a) (fun i => part (itemsOf l) a i) from hm).lsts
  have HR : Hid (RunsR (itemsOf l) a Ls) := Lib.hid ⟨p1, p3⟩
  have hle := HR.out.flat_le
  rw [itemsOf_len] at hle
  have hlen : Ls.length ≤ 29000 := by rw [p1, itemsOf_len]; have := many_le (N := l.length) ha; omega
  have C := rall_any w1 u1 Ls p2 (by omega) (by omega) HR.out.strict b hb hb2
  obtain ⟨A1, c1, rfl, -⟩ := p2.form
  clear hm p1 p2 p3
  go_wp2_with fail
  refine C.mono ?_
  clear C
  rintro e w2 ⟨u2, out, p, rfl, r1, r2, r3, o2⟩
  have C := cells_any w2 u2 out r2 (by omega)
  obtain ⟨A2, c2, rfl, -⟩ := r2.form
  have HE := Lib.hid r1
  clear r1 r2
  go_wp2_with fail
  refine C.mono ?_
  clear C
  rintro e w3 ⟨u3, rfl, o3, hcl⟩
  have HC := Lib.hid hcl
  clear hcl
  go_wp2
  exact bodyPost_ret (results_tmp3 rfl _ _ _) rfl ⟨u3, out, p, rfl, ⟨Ls, HR.out, HE.out⟩, HC.out, (o1.tr o2).tr o3⟩
set_option maxHeartbeats 4000000 in
theorem rsort_small (v : Value) (a b : Int) (ha : a < 1) (w : World) :
    Calls Try.prog 11 #[v, .int .i64 a, .int .i64 b] w fun e W' => e = .returned (.tuple #[.slice none 0 0, .int .i64 0, .int .i64 1]) ∧ Old w W' := by
  have C := rmake_bad v a ha w
  go_enter Try.func11, Try.ntmps11
  go_wp2_with fail
  refine C.mono ?_
  clear C
  rintro e w1 ⟨rfl, o1⟩
  go_wp2
  exact bodyPost_ret (results_tmp3 rfl _ _ _) rfl ⟨rfl, o1⟩
set_option maxHeartbeats 4000000 in
theorem rsort_narrow (w : World) (v : Value) (l : List Cel) (h : Cels w v l) (hl : l.length ≤ 29000) (a : Nat) (b : Int) (ha : 1 ≤ a) (ha2 : a ≤ 9223372036854775807) (hb : b < 2) :
    Calls Try.prog 11 #[v, .int .i64 (a : Int), .int .i64 b] w fun e W' => ∃ u, e = .returned (.tuple #[u, .int .i64 0, .int .i64 1]) ∧ Cels W' u [] ∧ Old w W' := by
  have C := rmake_any w v l h (by omega) a ha ha2
  obtain ⟨A, cap, rfl, hc⟩ := h.form
  clear h
  go_enter Try.func11, Try.ntmps11
  go_wp2_with fail
  refine C.mono ?_
  clear C
  rintro e w1 ⟨u1, rfl, hm, o1⟩
  obtain ⟨Ls, p1, p2, p3⟩ := (show RowR w1 u1 (many (itemsOf l).length a) (fun i => part (itemsOf l) a i) from hm).lsts
  obtain ⟨A1, c1, rfl, -⟩ := p2.form
  have C := rall_narrow (.slice A1 Ls.length c1) b hb w1
  clear hm p1 p2 p3
  go_wp2_with fail
  refine C.mono ?_
  clear C
  rintro e w2 ⟨rfl, o2⟩
  go_wp2
  exact bodyPost_ret (results_tmp3 rfl _ _ _) rfl ⟨_, rfl, .inl ⟨rfl, rfl⟩, o1.tr o2⟩
end Go.Proofs.Ytbccpplpfcfboaa
