/-
  The reference's All and its errors; Cells; Sort of the code and of the reference. Conditions: lengths as written.
-/
import Derived.Test.YtbccpplpfcfboaaMRef
namespace Go.Proofs.Ytbccpplpfcfboaa
open Go.RowKit

theorem rpass_any (w : World) (v : Value) (Ls : List (List Itm)) (h : Lsts w v Ls) (hl : Ls.length ≤ 30000) (ht : Ls.flatten.length ≤ 39000) (hs : ∀ L ∈ Ls, Strict L) (m : Nat) (hm : 2 ≤ m) (hm2 : m ≤ 9223372036854775807) :
    Calls Try.prog 16 #[v, .int .i64 (m : Int)] w fun e W' => ∃ u Ls', e = .returned (.tuple #[u, .int .i64 0]) ∧ PassR Ls m Ls' ∧ Lsts W' u Ls' ∧ Ls'.flatten.length ≤ Ls.flatten.length ∧ Old w W' :=
  (rpass_row w v Ls h hl ht hs m hm hm2).mono fun e W' ⟨u, h1, h2, h3⟩ => by
    obtain ⟨Ls', p1, p2, p3⟩ := h2.lsts
    exact ⟨u, Ls', h1, ⟨p1, fun i out ho => (p3 i out ho).1⟩, p2, pass_flat_le p1 fun i out ho => (p3 i out ho).2, h3⟩
set_option maxHeartbeats 2000000 in
theorem rpass_narrow (v : Value) (m : Int) (hm : m < 2) (w : World) :
    Calls Try.prog 16 #[v, .int .i64 m] w fun e W' => e = .returned (.tuple #[.slice none 0 0, .int .i64 1]) ∧ Old w W' := by
  go_enter Try.func16, Try.ntmps16
  go_wp2
  exact bodyPost_ret (results_tmp2 rfl _ _ _) rfl ⟨rfl, Old.re _⟩
set_option maxHeartbeats 2000000 in
theorem rpass_order (w : World) (v : Value) (Ls : List (List Itm)) (h : Lsts w v Ls) (hl : Ls.length ≤ 40000) (ht : ∀ L ∈ Ls, L.length ≤ 100000) (hs : allB Ls = false) (m : Int) (hm : ¬ m < 2) :
    Calls Try.prog 16 #[v, .int .i64 m] w fun e W' => e = .returned (.tuple #[.slice none 0 0, .int .i64 40]) ∧ Old w W' := by
  have C := rsortedL_any w v Ls h (by omega) ht
  rw [hs] at C
  clear h hs
  go_enter Try.func16, Try.ntmps16
  go_wp2_with fail
  refine C.mono ?_
  clear C
  rintro e w1 ⟨rfl, o1⟩
  go_wp2
  exact bodyPost_ret (results_tmp2 rfl _ _ _) rfl ⟨rfl, o1⟩
set_option maxHeartbeats 2000000 in
theorem rall_narrow (v : Value) (m : Int) (hm : m < 2) (w : World) :
    Calls Try.prog 20 #[v, .int .i64 m] w fun e W' => e = .returned (.tuple #[.slice none 0 0, .int .i64 0, .int .i64 1]) ∧ Old w W' := by
  go_enter Try.func20, Try.ntmps20
  go_wp2
  exact bodyPost_ret (results_tmp3 rfl _ _ _) rfl ⟨rfl, Old.re _⟩
set_option maxHeartbeats 2000000 in
theorem rall_order (w : World) (v : Value) (Ls : List (List Itm)) (h : Lsts w v Ls) (hl : Ls.length ≤ 40000) (ht : ∀ L ∈ Ls, L.length ≤ 100000) (hs : allB Ls = false) (m : Int) (hm : ¬ m < 2) :
    Calls Try.prog 20 #[v, .int .i64 m] w fun e W' => e = .returned (.tuple #[.slice none 0 0, .int .i64 0, .int .i64 40]) ∧ Old w W' := by
  have C := rsortedL_any w v Ls h (by omega) ht
  rw [hs] at C
  clear h hs
  go_enter Try.func20, Try.ntmps20
  go_wp2_with fail
  refine C.mono ?_
  clear C
  rintro e w1 ⟨rfl, o1⟩
  go_wp2
  exact bodyPost_ret (results_tmp3 rfl _ _ _) rfl ⟨rfl, o1⟩

set_option maxHeartbeats 8000000 in
theorem rall_any (w : World) (v : Value) (Ls : List (List Itm)) (h : Lsts w v Ls) (hl : Ls.length ≤ 30000) (ht : Ls.flatten.length ≤ 39000) (hs : ∀ L ∈ Ls, Strict L) (m : Nat) (hm : 2 ≤ m) (hm2 : m ≤ 9223372036854775807) :
    Calls Try.prog 20 #[v, .int .i64 (m : Int)] w fun e W' => ∃ u out p, e = .returned (.tuple #[u, .int .i64 ((p : Nat) : Int), .int .i64 0]) ∧ AllR m Ls out p ∧ Itms W' u out ∧ out.length ≤ Ls.flatten.length ∧ Old w W' := by
  have C := rsortedL_any w v Ls h (by omega) (fun L hL => by have := len_flat hL; omega)
  rw [(allB_iff Ls).2 hs] at C
  have hmw : ¬ (m : Int) < 2 := by omega
  obtain ⟨A, cap, rfl, hc⟩ := h.form
  have HI := Lib.hid (And.intro h hs)
  clear h hs
  go_enter Try.func20, Try.ntmps20
  go_wp2_with fail
  refine C.mono ?_
  clear C
  rintro e w1 ⟨rfl, o0⟩
  go_wp2_with fail
  go_loopw [0, 7] (fun lv pv wr => ∃ (p : Nat) (Lp : List (List Itm)) (A' : Option Addr) (c' : Nat), lv = .slice A' Lp.length c' ∧ pv = .int .i64 p ∧ p + Lp.length ≤ Ls.length ∧ (p = 0 ∨ 0 < Lp.length) ∧ Old w wr ∧ Hid (Lsts wr lv Lp ∧ (∀ L ∈ Lp, Strict L) ∧ Lp.flatten.length ≤ Ls.flatten.length ∧ ∀ out q, AllR m Lp out q → AllR m Ls out (p + q))) (fun lv _ _ => match lv with | .slice _ q _ => q | _ => 0)
  case atStart => exact ⟨0, Ls, A, cap, rfl, rfl, by omega, .inl rfl, o0, Lib.hid ⟨HI.out.1.old o0, HI.out.2, Nat.le_refl _, fun out q hq => by rw [Nat.zero_add]; exact hq⟩⟩
  case round =>
    obtain ⟨p, Lp, A', c', rfl, rfl, hp, hp0, o1, HP⟩ := hrel
    by_cases hlt : Lp.length < 2
    · have i1 : ¬ (1 : Int) < (Lp.length : Int) := by omega
      have HE := Lib.hid (And.intro HP.out.1 (HP.out.2.2.2 _ _ (AllR.stop Lp hlt)))
      cases Lp with
      | nil =>
        have hp1 : p = 0 := by rcases hp0 with h | h; exact h; simp at h
        subst hp1
        clear hp0
        go_wp2
        refine bodyPost_ret (results_tmp3 rfl _ _ _) rfl ⟨_, [], 0, rfl, ?_, .inl ⟨rfl, rfl⟩, Nat.zero_le _, o1⟩
        exact HE.out.2
      | cons L T =>
        have hT : T = [] := List.eq_nil_of_length_eq_zero (by simp at hlt; omega)
        subst hT
        obtain ⟨b, off, u, rfl, hu, hit⟩ := HE.out.1.at_ (i := 0) (L := L) rfl
        rw [Nat.add_zero] at hu
        have HT := Lib.hid hit
        obtain ⟨A1, c1, rfl, -⟩ := hit.form
        clear hit hp0
        go_wp2
        refine bodyPost_ret (results_tmp3 rfl _ _ _) rfl ⟨_, L, p, rfl, ?_, HT.out, ?_, o1⟩
        · have := HE.out.2
          simpa using this
        · have := HP.out.2.2.1
          simp at this ⊢
          omega
    · have i1 : (1 : Int) < (Lp.length : Int) := by omega
      have C := rpass_any wr _ Lp HP.out.1 (by omega) (by have := HP.out.2.2.1; omega) HP.out.2.1 m hm hm2
      go_wp2_with fail
      refine C.mono ?_
      clear C
      rintro e w2 ⟨u, Ln, rfl, h1, h2, h3, o2⟩
      obtain ⟨A2, c2, rfl, hc2⟩ := h2.form
      have o3 := o1.tr o2
      have hmany : Ln.length + 1 ≤ Lp.length := by
        have := h1.1
        have := many_half (n := Lp.length) hm
        omega
      have hpos : 0 < Ln.length := by rw [h1.1]; exact many_pos (by omega) (by omega)
      have HE : Hid (Lsts w2 (.slice A2 Ln.length c2) Ln ∧ (∀ L ∈ Ln, Strict L) ∧ Ln.flatten.length ≤ Ls.flatten.length ∧ ∀ out q, AllR m Ln out q → AllR m Ls out (p + 1 + q)) := Lib.hid ⟨h2, h1.strict, by have := HP.out.2.2.1; omega, fun out q hq => by
        rw [show p + 1 + q = p + (q + 1) by omega]
        exact HP.out.2.2.2 _ _ (AllR.step Lp Ln out q (by omega) h1 hq)⟩
      clear h1 h2 h3 HP
      go_wp2
      go_round
      case rel => exact ⟨p + 1, Ln, A2, c2, rfl, by go_num, by omega, .inr hpos, o3, HE⟩
      case measure => (show Ln.length < Lp.length; omega)

set_option maxRecDepth 20000 in
set_option maxHeartbeats 2000000 in
theorem mcells_any (w : World) (v : Value) (l : List Itm) (h : Itms w v l) (hl : l.length * 72 ≤ 140737488355328) :
    Calls Try.prog 13 #[v] w fun e w' => ∃ u, e = .returned u ∧ Old w w' ∧ Cels w' u (l.map (·.c)) := by
  obtain ⟨A, cap, rfl, hc⟩ := h.form
  have HI := Lib.hid h
  clear h
  go_enter Try.func13, Try.ntmps13
  go_wp2_with fail
  go_loopw [3, 8] (fun ov iv wr => ∃ k : Nat, iv = .int .i64 k ∧ k ≤ l.length ∧ Old w wr ∧ Hid (OwnC wr w.heap.size ov ((l.map (·.c)).take k))) (fun _ iv _ => l.length - (intOf iv).toNat)
  case atStart => exact ⟨0, rfl, Nat.zero_le _, Old.re _, Lib.hid (OwnC.nil _ _)⟩
  case round =>
    obtain ⟨k, rfl, hk, o1, HO⟩ := hrel
    by_cases hlt : k < l.length
    · obtain ⟨x, HX⟩ : ∃ x, Hid (l[k]? = some x) := ⟨l[k], Lib.hid (List.getElem?_eq_getElem hlt)⟩
      have HX2 := Lib.hid (show (l.map (·.c))[k]? = some x.c by rw [List.getElem?_map, HX.out]; rfl)
      obtain ⟨b, off, rfl, hx⟩ := (HI.out.old o1).at_ HX.out
      have hltb : b < wr.heap.size := World.block_lt_of_cell? wr ⟨b, _, none⟩ hx.a0
      have hne : ¬ b = wr.heap.size := by omega
      obtain ⟨x0, x1, x2, x3, x4, x5, x6⟩ := hx.held
      go_wp2_with (at_builtin; refine wp_cels rfl (.tmp 12) (.tmp 15) rfl (W0 := w) ((o1.al _).al _) _ ((l.map (·.c)).take k) [x.c] rfl ((HO.out.old (old_alloc _ _)).old (old_alloc _ _)) _ rfl (one_cel (new_bk1 _ _ _ _)) (by simp; omega) ?_; intro v8 w8 n8 o8; refine Hid.out ?_)
      rw [take_at HX2.out] at n8
      clear x0 x1 x2 x3 x4 x5 x6 hx HO HX
      refine Lib.hid ?_
      go_wp2
      go_round
      case rel => exact ⟨k + 1, by go_num, by omega, o8, Lib.hid n8⟩
      case measure => simp [intOf]; omega
    · obtain rfl : k = l.length := by omega
      go_wp2
      go_ret
      exact ⟨_, rfl, o1, by have := HO.out.cels; rwa [← List.length_map (·.c), List.take_length] at this⟩
end Go.Proofs.Ytbccpplpfcfboaa
