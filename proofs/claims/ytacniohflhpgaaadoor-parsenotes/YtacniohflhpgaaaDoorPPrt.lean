/-
  Print of the code. Conditions: lengths as written; the program's variables hold what they hold.
-/
import Derived.Test.YtacniohflhpgaaaDoorPBld
namespace Go.Proofs.YtacniohflhpgaaaDoor
open Go.RowKit

/-- A cell of modest size. -/
def Cel.sm (c : Cel) : Prop := c.ts < 18446744073709551616 ∧ c.row.length ≤ 1000 ∧ c.col.length ≤ 1000 ∧ c.val.length ≤ 1000
def printS (l : List Cel) : List UInt8 := if l.all toldB = true then printL l else []
def printE (l : List Cel) : Nat := if l.all toldB = true then 0 else 1
theorem line_len (c : Cel) (h : c.sm) : (lineL c).length ≤ 4000 := by
  have := dec_len c.ts h.1
  obtain ⟨-, h1, h2, h3⟩ := h
  have hll : (lastL c).length ≤ 1001 := by unfold lastL; split <;> simp; omega
  simp [lineL, bodyL]
  omega
theorem print_snoc (l : List Cel) (c : Cel) : printL (l ++ [c]) = printL l ++ lineL c := by simp [printL]
theorem print_len (l : List Cel) (h : ∀ c ∈ l, c.sm) : (printL l).length ≤ 4000 * l.length := by
  induction l with
  | nil => simp [printL]
  | cons c l ih =>
    have h1 := line_len c (h c (by simp))
    have h2 := ih (fun d hd => h d (by simp [hd]))
    simp [printL] at h2 ⊢
    omega
theorem bld_old {T e : TypeId} {B0 b : Nat} {cs : List Value} {w w' : World} (h : Lib.IsBuilder T e B0 b cs w) (o : Old w w') : Lib.IsBuilder T e B0 b cs w' := by
  have key : ∀ p, Lib.BuilderAt T e B0 b p cs w → Lib.BuilderAt T e B0 b p cs w' := by
    rintro p ⟨hB, v, hb, hown, hne⟩
    refine ⟨hB, v, ?_, row_old hown o, hne⟩
    have hlt : b < w.heap.size := (Array.getElem?_eq_some_iff.1 hb).1
    rw [o.block b hlt]
    exact hb
  rcases h with h | h
  · exact .inl (key _ h)
  · exact .inr (key _ h)
theorem str_cells (l : List UInt8) : Lib.strCells (B l) = Lib.byteCells l := rfl
theorem Old.bel {w w1 w2 : World} (h : Old w w1) (k : Below w.heap.size w1 w2) : Old w w2 := h.trans k

set_option maxHeartbeats 4000000 in
theorem print_at (b off cap : Nat) (l : List Cel) (w : World) (hv : Env w) (h : CelsAt w b off l) (hml : l.length ≤ 1000) (hsm : ∀ c ∈ l, c.sm) :
    Calls Tryd.prog 16 #[.slice (some ⟨b, off, none⟩) l.length cap] w fun e w' => e = .returned (.tuple #[.string (B (printS l)), .int .i64 (printE l : Nat)]) ∧ Old w w' := by
  obtain ⟨S, hS⟩ : ∃ S, S = printS l := ⟨_, rfl⟩
  obtain ⟨E, hE⟩ : ∃ E, E = printE l := ⟨_, rfl⟩
  rw [← hS, ← hE]
  have HS := Lib.hid hS
  have HE := Lib.hid hE
  clear hS hE
  go_enter Tryd.func16, Tryd.ntmps16
  go_wp2_with fail
  go_loopw [9] (fun i wr => ∃ k : Nat, k ≤ l.length ∧ i = .int .i64 k ∧ Lib.IsBuilder 48 5 w.heap.size w.heap.size (Lib.byteCells (printL (l.take k))) wr ∧ Old w wr ∧ Hid ((l.take k).all toldB = true)) (fun i _ => l.length - (intOf i).toNat)
  case atStart => exact ⟨0, Nat.zero_le _, rfl, Lib.fresh_isBuilder _ _ _, old_alloc _ _, Lib.hid rfl⟩
  case round =>
    obtain ⟨k, hk, rfl, hB, ho, HA⟩ := hrel
    by_cases hlt : k < l.length
    · obtain ⟨a0, a1, a2, a3, a4, a5⟩ := ((h.at_ k hlt).old ho).held
      have hc := hsm l[k] (List.getElem_mem hlt)
      have HT := Lib.hid (List.take_succ_eq_append_getElem hlt)
      have HM := Lib.hid (fun (e : toldB l[k] = false) => (show l.all toldB = false by
        rw [List.all_eq_false]; exact ⟨l[k], List.getElem_mem hlt, by simp [e]⟩))
      have hpl := print_len (l.take k) (fun c hc => hsm c (List.mem_of_mem_take hc))
      have htl : (l.take k).length ≤ 1000 := by rw [List.length_take]; omega
      have hI : (k : Int) < (l.length : Int) := by omega
      generalize l[k] = c at *
      obtain ⟨hts, h1, h2, h3⟩ := hc
      have hll := line_len c ⟨hts, h1, h2, h3⟩
      have D := told_any c (wr.alloc (.cells (cells c) 33)) (hv.old (ho.al _)) hts (by omega) (by omega) (by omega)
      cases hb : toldB c with
      | false =>
        rw [hb] at D
        have HN := Lib.hid (HM.out hb)
        go_wp2_with (go_at_call 24; refine D.mono ?_; rintro e w2 ⟨rfl, o2⟩)
        go_ret2
        exact ⟨by rw [HS.out, HE.out]; unfold printS printE; rw [HN.out]; rfl, (ho.al _).tr o2⟩
      | true =>
        rw [hb] at D
        have hcb := new_bk wr 33 (cells c)
        go_wp2_with (go_at_call 24; refine D.mono ?_; rintro e w2 ⟨rfl, o2⟩; refine Hid.out ?_)
        have hcb2 := hcb.old o2
        obtain ⟨z0, z1, z2, z3, z4, z5⟩ := hcb2.six
        have ho2 := (ho.al (.cells (cells c) 33)).tr o2
        have hB2 := bld_old hB ((old_alloc wr (.cells (cells c) 33)).tr o2)
        have E2 := write_any c w2 (hv.old ho2) hts (by omega) (by omega) (by omega)
        refine Lib.hid ?_
        go_wp2_with (go_at_call 26; refine E2.mono ?_; rintro e w3 ⟨rfl, o3⟩; refine Hid.out ?_)
        have ho3 := ho2.tr o3
        have F3 := wstr_any w.heap.size w.heap.size (Lib.byteCells (printL (l.take k))) (B (lineL c)) w3 (bld_old hB2 o3) (by rw [Lib.byteCells_length]; simp only [ByteArray.size, List.size_toArray]; omega) ho3.size
        refine Lib.hid ?_
        go_wp2_with (go_at_call 25; refine F3.mono ?_; rintro e w4 ⟨rfl, h4, b4⟩; refine Hid.out ?_)
        have hB4 : Lib.IsBuilder 48 5 w.heap.size w.heap.size (Lib.byteCells (printL (l.take (k + 1)))) w4 := by
          rw [HT.out, print_snoc, Lib.byteCells_append]
          exact h4
        have HA2 := Lib.hid (show (l.take (k + 1)).all toldB = true by rw [HT.out, List.all_append, HA.out]; simp [hb])
        refine Lib.hid ?_
        go_wp2
        go_roundw
        case rel => exact ⟨k + 1, by omega, by go_num, hB4, ho3.bel b4, HA2⟩
        case measure => simp [intOf]; omega
    · obtain rfl : k = l.length := by omega
      have HA2 := Lib.hid (show l.all toldB = true by have := HA.out; rwa [List.take_length] at this)
      have F := Tryd.Builder_String_any w.heap.size w.heap.size (printL (l.take l.length)) wr hB ho.size
      rw [List.take_length] at F
      go_wp2_with (go_at_call 27; refine F.mono ?_; rintro e w5 ⟨rfl, b5⟩)
      go_ret2
      exact ⟨by rw [HS.out, HE.out]; unfold printS printE; rw [HA2.out]; rfl, ho.bel b5⟩

set_option maxHeartbeats 1000000 in
theorem print_none (A : Option Addr) (cap : Nat) (w : World) :
    Calls Tryd.prog 16 #[.slice A 0 cap] w fun e w' => e = .returned (.tuple #[.string (B (printS [])), .int .i64 (printE [] : Nat)]) ∧ Old w w' := by
  have F := Tryd.Builder_String_any w.heap.size w.heap.size [] (w.alloc (.cells #[.pointer none, .slice none 0 0] 48)) (Lib.fresh_isBuilder _ _ _) (old_alloc _ _).size
  go_enter Tryd.func16, Tryd.ntmps16
  go_wp2_with fail
  refine wp_loop_rounds 1 ?_
  rw [rounds_succ]
  go_wp2_with (go_at_call 27; refine F.mono ?_; rintro e w5 ⟨rfl, b5⟩)
  go_ret2
  exact ⟨rfl, (old_alloc _ _).bel b5⟩
theorem print_any (v : Value) (l : List Cel) (w : World) (hv : Env w) (h : Cels w v l) (hml : l.length ≤ 1000) (hsm : ∀ c ∈ l, c.sm) :
    Calls Tryd.prog 16 #[v] w fun e w' => e = .returned (.tuple #[.string (B (printS l)), .int .i64 (printE l : Nat)]) ∧ Old w w' := by
  rcases h with ⟨rfl, A, cap, rfl⟩ | ⟨b, off, cap, rfl, h⟩
  · exact print_none A cap w
  · exact print_at b off cap l w hv h hml hsm
end Go.Proofs.YtacniohflhpgaaaDoor
