/-
  Print of the code, whatever the cells' sizes. Conditions: those that a machine's memory sets; the program's variables hold what they hold.
-/
import Derived.Test.YtacniohflhpgaaaDoorPWdw
namespace Go.Proofs.YtacniohflhpgaaaDoor
open Go.RowKit

/-- A cell that may be in memory. -/
def Cel.wk (c : Cel) : Prop := c.ts < 18446744073709551616 ∧ c.row.length ≤ 9223372036854775807 ∧ c.col.length ≤ 9223372036854775807 ∧ c.val.length ≤ 9223372036854775807
theorem told_sm {c : Cel} (h : toldB c = true) (ht : c.ts < 18446744073709551616) : c.sm := by
  simp only [toldB, Bool.and_eq_true, Bool.not_eq_true', decide_eq_true_eq] at h
  obtain ⟨⟨⟨⟨⟨⟨h1, h2⟩, h3⟩, h4⟩, h5⟩, h6⟩, h7⟩ := h
  simp [nameB] at h1 h3
  have h8 : c.val.length ≤ 100 := by
    simp [valB] at h5
    rcases h5 with h5 | h5
    · simp [h5]
    · exact h5.2
  exact ⟨ht, by omega, by omega, by omega⟩

set_option maxHeartbeats 4000000 in
theorem printw_at (b off cap : Nat) (l : List Cel) (w : World) (hv : Env w) (h : CelsAt w b off l) (hml : l.length ≤ 1000) (hsm : ∀ c ∈ l, c.wk) :
    Calls Tryd.prog 16 #[.slice (some ⟨b, off, none⟩) l.length cap] w fun e w' => e = .returned (.tuple #[.string (B (printS l)), .int .i64 (printE l : Nat)]) ∧ Old w w' := by
  obtain ⟨S, hS⟩ : ∃ S, S = printS l := ⟨_, rfl⟩
  obtain ⟨E, hE⟩ : ∃ E, E = printE l := ⟨_, rfl⟩
  rw [← hS, ← hE]
  have HS := Lib.hid hS
  have HE := Lib.hid hE
  clear hS hE
  go_enter Tryd.func16, Tryd.ntmps16
  go_wp2_with fail
  go_loopw [9] (fun i wr => ∃ k : Nat, k ≤ l.length ∧ i = .int .i64 k ∧ Lib.IsBuilder 48 5 w.heap.size w.heap.size (Lib.byteCells (printL (l.take k))) wr ∧ Old w wr ∧ Hid ((l.take k).all toldB = true)) (fun i _ => l.length - (intOf i).toNat)
  case atStart => exact ⟨0, Nat.zero_le _, rfl, Lib.fresh_isBuilder _ _ _, old_alloc _ _, Lib.hid rfl⟩
  case round =>
    obtain ⟨k, hk, rfl, hB, ho, HA⟩ := hrel
    by_cases hlt : k < l.length
    · obtain ⟨a0, a1, a2, a3, a4, a5⟩ := ((h.at_ k hlt).old ho).held
      have hc := hsm l[k] (List.getElem_mem hlt)
      have HT := Lib.hid (List.take_succ_eq_append_getElem hlt)
      have HM := Lib.hid (fun (e : toldB l[k] = false) => (show l.all toldB = false by
        rw [List.all_eq_false]; exact ⟨l[k], List.getElem_mem hlt, by simp [e]⟩))
      have hpl := print_len (l.take k) (fun c hc => told_sm (List.all_eq_true.1 HA.out c hc) (hsm c (List.mem_of_mem_take hc)).1)
      have htl : (l.take k).length ≤ 1000 := by rw [List.length_take]; omega
      have hI : (k : Int) < (l.length : Int) := by omega
      generalize l[k] = c at *
      obtain ⟨hts, h1, h2, h3⟩ := hc
      have D := toldw_any c (wr.alloc (.cells (cells c) 33)) (hv.old (ho.al _)) hts (by omega) (by omega) (by omega)
      cases hb : toldB c with
      | false =>
        rw [hb] at D
        have HN := Lib.hid (HM.out hb)
        go_wp2_with (go_at_call 24; refine D.mono ?_; rintro e w2 ⟨rfl, o2⟩)
        go_ret2
        exact ⟨by rw [HS.out, HE.out]; unfold printS printE; rw [HN.out]; rfl, (ho.al _).tr o2⟩
      | true =>
        rw [hb] at D
        have hsc := told_sm hb hts
        have hll := line_len c hsc
        obtain ⟨-, g1, g2, g3⟩ := hsc
        have hcb := new_bk wr 33 (cells c)
        go_wp2_with (go_at_call 24; refine D.mono ?_; rintro e w2 ⟨rfl, o2⟩; refine Hid.out ?_)
        have hcb2 := hcb.old o2
        obtain ⟨z0, z1, z2, z3, z4, z5⟩ := hcb2.six
        have ho2 := (ho.al (.cells (cells c) 33)).tr o2
        have hB2 := bld_old hB ((old_alloc wr (.cells (cells c) 33)).tr o2)
        have E2 := write_any c w2 (hv.old ho2) hts (by omega) (by omega) (by omega)
        refine Lib.hid ?_
        go_wp2_with (go_at_call 26; refine E2.mono ?_; rintro e w3 ⟨rfl, o3⟩; refine Hid.out ?_)
        have ho3 := ho2.tr o3
        have F3 := wstr_any w.heap.size w.heap.size (Lib.byteCells (printL (l.take k))) (B (lineL c)) w3 (bld_old hB2 o3) (by rw [Lib.byteCells_length]; simp only [ByteArray.size, List.size_toArray]; omega) ho3.size
        refine Lib.hid ?_
        go_wp2_with (go_at_call 25; refine F3.mono ?_; rintro e w4 ⟨rfl, h4, b4⟩; refine Hid.out ?_)
        have hB4 : Lib.IsBuilder 48 5 w.heap.size w.heap.size (Lib.byteCells (printL (l.take (k + 1)))) w4 := by
          rw [HT.out, print_snoc, Lib.byteCells_append]
          exact h4
        have HA2 := Lib.hid (show (l.take (k + 1)).all toldB = true by rw [HT.out, List.all_append, HA.out]; simp [hb])
        refine Lib.hid ?_
        go_wp2
        go_roundw
        case rel => exact ⟨k + 1, by omega, by go_num, hB4, ho3.bel b4, HA2⟩
        case measure => simp [intOf]; omega
    · obtain rfl : k = l.length := by omega
      have HA2 := Lib.hid (show l.all toldB = true by have := HA.out; rwa [List.take_length] at this)
      have F := Tryd.Builder_String_any w.heap.size w.heap.size (printL (l.take l.length)) wr hB ho.size
      rw [List.take_length] at F
      go_wp2_with (go_at_call 27; refine F.mono ?_; rintro e w5 ⟨rfl, b5⟩)
      go_ret2
      exact ⟨by rw [HS.out, HE.out]; unfold printS printE; rw [HA2.out]; rfl, ho.bel b5⟩
theorem printw_any (v : Value) (l : List Cel) (w : World) (hv : Env w) (h : Cels w v l) (hml : l.length ≤ 1000) (hsm : ∀ c ∈ l, c.wk) :
    Calls Tryd.prog 16 #[v] w fun e w' => e = .returned (.tuple #[.string (B (printS l)), .int .i64 (printE l : Nat)]) ∧ Old w w' := by
  rcases h with ⟨rfl, A, cap, rfl⟩ | ⟨b, off, cap, rfl, h⟩
  · exact print_none A cap w
  · exact printw_at b off cap l w hv h hml hsm

end Go.Proofs.YtacniohflhpgaaaDoor
