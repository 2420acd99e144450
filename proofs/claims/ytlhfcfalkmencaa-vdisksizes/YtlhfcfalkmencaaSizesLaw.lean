/-
  VdiskSizes: whatever comes in, the law answers true, and leaves all as it was. No conditions.
-/
import Derived.Test.YtlhfcfalkmencaaVAct
import Derived.Deep.CutBlock
namespace Go.Proofs.Ytlhfcfalkmencaa
open Go.ChangeShapes Go.WideShapes Go.ChangeAt Go.RowKit Go.Joins Go.Deep Go.Maps

/-- How many bytes the files of these names have. -/
def lenN (M : List Fl) (t : List UInt8) : Nat := match fnd M t with | some f => f.s.length | none => 0
def sumN (M : List Fl) (l : List (List UInt8)) : Nat := (l.map (lenN M)).sum
theorem sum_snoc (M : List Fl) (R : List (List UInt8)) (q : Nat) (h : q < R.length) (f : Fl) (hf : fnd M R[q] = some f) : sumN M (R.take (q + 1)) = sumN M (R.take q) + f.s.length := by
  unfold sumN
  rw [List.take_succ_eq_append_getElem h, List.map_append, List.sum_append]
  simp [lenN, hf]
theorem sum_le (M : List Fl) (R : List (List UInt8)) (q : Nat) : sumN M (R.take q) ≤ sumN M R := by
  have : sumN M R = sumN M (R.take q) + sumN M (R.drop q) := by
    unfold sumN
    rw [← List.sum_append, ← List.map_append, List.take_append_drop]
  omega
theorem sum_nms {M : List Fl} (hn : (M.map (·.name)).Nodup) : sumN M (nms M) = total M := by
  unfold sumN nms total
  rw [List.map_map]
  congr 1
  apply List.map_congr_left
  intro f hf
  simp only [Function.comp, lenN]
  rw [fnd_of_mem hn hf]
theorem sum_rise {M : List Fl} (hn : (M.map (·.name)).Nodup) : sumN M (rise M) = total M := by
  rw [← sum_nms hn]
  exact ((rise_perm M).map (lenN M)).sum_nat
theorem file_of {k : Dsk} (h : Ok k) {t : List UInt8} (ht : t ∈ rise k.files) : ∃ f, fnd k.files t = some f ∧ bad t = false ∧ f.n ≤ f.s.length := by
  obtain ⟨f, hf, rfl⟩ := List.mem_map.1 ((rise_perm k.files).mem_iff.1 ht)
  exact ⟨f, fnd_of_mem h.names hf, bad_of (h.nm f hf).1 (h.nm f hf).2, h.syn f hf⟩

set_option maxRecDepth 10000 in
set_option maxHeartbeats 4000000 in
theorem law_sizes (l : List Ac) (A : Option Addr) (cap : Nat) (w : World) (hS : Acts w A cap l) :
    Calls Try.prog 7 #[.slice A l.length cap] w fun e w' => e = .returned (.bool true) ∧ Old w w' := by
  by_cases hn : l.length ≤ 80
  case neg =>
    have d1 : decide ((80 : Int) < (l.length : Int)) = true := by simp; omega
    go_enter Try.func7, Try.ntmps7
    go_wp2_with (go_at_call 8; refine (shown_any _).mono ?_; rintro e w1 ⟨rfl, k1⟩)
    go_ret
    exact ⟨rfl, k1⟩
  have d1 : decide ((80 : Int) < (l.length : Int)) = false := by simp; omega
  go_enter Try.func7, Try.ntmps7
  go_wp2_with fail
  refine (shown_any _).mono ?_
  rintro e w1 ⟨rfl, k1⟩
  go_wp2_with fail
  refine (new_sd 5000 (by omega) w w1 k1).mono ?_
  rintro e w2 ⟨d, m, rfl, s2⟩
  clear k1 d1
  go_wp2_with fail
  go_loopw [4] (fun i wr => ∃ (j : Nat) (L : List Fl), j ≤ l.length ∧ i = .int .i64 j ∧ Sd w wr ⟨d, m, 5000, L, true, none⟩) (fun i _ => l.length - (intOf i).toNat)
  case atStart => exact ⟨0, [], Nat.zero_le _, rfl, s2⟩
  case round =>
    clear s2
    obtain ⟨j, L, hj, rfl, hsd⟩ := hrel
    by_cases hlt : j < l.length
    · obtain ⟨⟨hma, hmb, hms⟩, bb, off, rfl, hac⟩ := hS.at_ j hlt
      have hac1 := hac.old hsd.old
      clear hac
      generalize l[j] = x at *
      obtain ⟨kind, xn, xk, xa, xb, xs⟩ := x
      simp only at hma hmb hms
      unfold maxLen at hma hmb hms
      obtain ⟨c0, c1, c2, c3, c4, c5⟩ := hac1
      have hwr : wr.heap.size ≤ wr.heap.size := Nat.le_refl _
      by_cases ha : xa.length ≤ 100
      case neg =>
        have da : decide ((100 : Int) < (xa.length : Int)) = true := by simp; omega
        go_wp2_with (go_at_call 8; refine (shown_any _).mono ?_; rintro e w4 ⟨rfl, k4⟩)
        go_ret
        exact ⟨rfl, (hsd.old.al _).tr k4⟩
      have da : decide ((100 : Int) < (xa.length : Int)) = false := by simp; omega
      by_cases hb : xb.length ≤ 100
      case neg =>
        have db : decide ((100 : Int) < (xb.length : Int)) = true := by simp; omega
        go_wp2_with (go_at_call 8; refine (shown_any _).mono ?_; rintro e w4 ⟨rfl, k4⟩)
        go_ret
        exact ⟨rfl, (hsd.old.al _).tr k4⟩
      have db : decide ((100 : Int) < (xb.length : Int)) = false := by simp; omega
      by_cases hs : xs.length ≤ 200
      case neg =>
        have ds : decide ((200 : Int) < (xs.length : Int)) = true := by simp; omega
        go_wp2_with (go_at_call 8; refine (shown_any _).mono ?_; rintro e w4 ⟨rfl, k4⟩)
        go_ret
        exact ⟨rfl, (hsd.old.al _).tr k4⟩
      have ds : decide ((200 : Int) < (xs.length : Int)) = false := by simp; omega
      -- SWITCH
      go_upto_block 2 with (fail)
      have sb := hsd.go (old_alloc wr (.cells (acells ⟨kind, xn, xk, xa, xb, xs⟩) 45))
      have bx := new_bk wr 45 (acells ⟨kind, xn, xk, xa, xb, xs⟩)
      clear hsd c0 c1 c2 c3 c4 c5 da db ds
      generalize wr.alloc (.cells (acells ⟨kind, xn, xk, xa, xb, xs⟩) 45) = w3 at sb bx ⊢
      have c0 : w3.cell? ⟨wr.heap.size, 0, none⟩ = some (.int .i64 kind) := bx.at_ 0 rfl
      have c3' : w3.cell? ⟨wr.heap.size, 3, none⟩ = some (.string (B xa)) := bx.at_ 3 rfl
      have c4' : w3.cell? ⟨wr.heap.size, 4, none⟩ = some (.string (B xb)) := bx.at_ 4 rfl
      have c5' : w3.cell? ⟨wr.heap.size, 5, none⟩ = some (.string (B xs)) := bx.at_ 5 rfl
      generalize wr.heap.size = gx at *
      go_cut [] (fun wx => ∃ M, Sd w wx ⟨d, m, 5000, M, true, none⟩)
      case first =>
        by_cases hk0 : kind = 0
        · subst hk0
          go_wp2_with fail
          refine (create_all sb xa (by omega)).mono ?_
          rintro e w4 ⟨y, M, rfl, s4⟩
          clear sb
          go_wp2
          go_meet
          case rel => exact ⟨M, s4⟩
        have hkI0 : (kind == 0) = false := by simpa using hk0
        by_cases hk1 : kind = 1
        · subst hk1
          go_wp2_with fail
          refine (create_all sb xa (by omega)).mono ?_
          rintro e w4 ⟨y, M, rfl, s4⟩
          clear sb
          go_wp2
          go_meet
          case rel => exact ⟨M, s4⟩
        have hkI1 : (kind == 1) = false := by simpa using hk1
        by_cases hk2 : kind = 2
        · subst hk2
          by_cases hE : fndE ⟨d, m, 5000, L, true, none⟩ xa = 0
          · obtain ⟨f, hf0, -, -, hbx⟩ := fndE_ok hE
            have hf : fnd L xa = some f := hf0
            clear hf0
            have hle := len_le_total (fnd_mem hf)
            have hroom := sb.dk.ok.room
            simp only at hroom
            have i7 : ¬ 9223372036854775807 < f.s.length + xs.length := by omega
            go_wp2_with fail
            refine (read_sd sb xa hbx hf).mono ?_
            rintro e w4 ⟨rfl, s4, o4⟩
            have bx4 := bx.old o4
            have c3 : w4.cell? ⟨gx, 3, none⟩ = some (.string (B xa)) := bx4.at_ 3 rfl
            have c5 : w4.cell? ⟨gx, 5, none⟩ = some (.string (B xs)) := bx4.at_ 5 rfl
            clear sb bx c0 c3' c4' c5'
            by_cases hfit : total L + xs.length ≤ 5000
            · have HA := Lib.hid (append_ok ⟨d, m, 5000, L, true, none⟩ xa xs w4 s4.dk rfl rfl hbx f hf hfit)
              have HB := Lib.hid (show fnd (setF f.blk (f.s ++ xs) f.n L) xa = some { f with s := f.s ++ xs, n := f.n } by rw [fnd_setF, hf]; simp)
              have hox : gx ∉ own ⟨d, m, 5000, L, true, none⟩ := s4.dk.other bx4 (by decide) (by decide) (by decide) (by decide)
              go_wp2_with fail
              refine HA.out.mono ?_
              rintro e w5 ⟨rfl, h5, k5⟩
              have s5 := s4.step h5 k5
              have bx5 := k5.bk bx4 hox
              clear s4 h5 k5 c3 c5 bx4 o4
              have c3 : w5.cell? ⟨gx, 3, none⟩ = some (.string (B xa)) := bx5.at_ 3 rfl
              have HC := Lib.hid (read_sd s5 xa hbx HB.out)
              go_wp2_with fail
              refine HC.out.mono ?_
              rintro e w6 ⟨rfl, s6, o6⟩
              have c5 : w6.cell? ⟨gx, 5, none⟩ = some (.string (B xs)) := (bx5.old o6).at_ 5 rfl
              have hadd := add_B f.s xs
              clear s5 c3 bx5 o6
              go_wp2
              go_meet
              case rel => exact ⟨_, s6⟩
            · go_wp2_with fail
              refine (appendF_sd s4 xa xs (by omega) hbx hf (by omega)).mono ?_
              rintro e w5 ⟨rfl, s5, -⟩
              clear s4
              go_wp2
              go_meet
              case rel => exact ⟨_, s5⟩
          · have HA := Lib.hid (read_no _ xa (by omega) w3 sb.dk hE)
            have HB := Lib.hid fun (w4 : World) (o : Old w3 w4) => append_no _ xa xs (by omega) w4 (sb.dk.old o) hE
            generalize fndE ⟨d, m, 5000, L, true, none⟩ xa = E at *
            have hEI : (E == 0) = false := by simpa using hE
            go_wp2_with fail
            refine HA.out.mono ?_
            rintro e w4 ⟨rfl, o4⟩
            have s4 := sb.go o4
            have bx4 := bx.old o4
            have c3 : w4.cell? ⟨gx, 3, none⟩ = some (.string (B xa)) := bx4.at_ 3 rfl
            have c5 : w4.cell? ⟨gx, 5, none⟩ = some (.string (B xs)) := bx4.at_ 5 rfl
            clear sb bx c0 c3' c4' c5'
            go_wp2_with fail
            refine (HB.out w4 o4).mono ?_
            rintro e w5 ⟨rfl, o5⟩
            have s5 := s4.go o5
            clear s4
            go_wp2
            go_meet
            case rel => exact ⟨_, s5⟩
        have hkI2 : (kind == 2) = false := by simpa using hk2
        by_cases hk3 : kind = 3
        · subst hk3
          by_cases hE : fndE ⟨d, m, 5000, L, true, none⟩ xa = 0
          · obtain ⟨f, hf0, -, -, hbx⟩ := fndE_ok hE
            have hf : fnd L xa = some f := hf0
            clear hf0
            have hle := len_le_total (fnd_mem hf)
            have hroom := sb.dk.ok.room
            simp only at hroom
            have i7 : ¬ 9223372036854775807 < f.s.length + xs.length := by omega
            go_wp2_with fail
            refine (read_sd sb xa hbx hf).mono ?_
            rintro e w4 ⟨rfl, s4, o4⟩
            have bx4 := bx.old o4
            have c3 : w4.cell? ⟨gx, 3, none⟩ = some (.string (B xa)) := bx4.at_ 3 rfl
            have c5 : w4.cell? ⟨gx, 5, none⟩ = some (.string (B xs)) := bx4.at_ 5 rfl
            clear sb bx c0 c3' c4' c5'
            by_cases hfit : total L + xs.length ≤ 5000
            · have HA := Lib.hid (append_ok ⟨d, m, 5000, L, true, none⟩ xa xs w4 s4.dk rfl rfl hbx f hf hfit)
              have HB := Lib.hid (show fnd (setF f.blk (f.s ++ xs) f.n L) xa = some { f with s := f.s ++ xs, n := f.n } by rw [fnd_setF, hf]; simp)
              have hox : gx ∉ own ⟨d, m, 5000, L, true, none⟩ := s4.dk.other bx4 (by decide) (by decide) (by decide) (by decide)
              go_wp2_with fail
              refine HA.out.mono ?_
              rintro e w5 ⟨rfl, h5, k5⟩
              have s5 := s4.step h5 k5
              have bx5 := k5.bk bx4 hox
              clear s4 h5 k5 c3 c5 bx4 o4
              have c3 : w5.cell? ⟨gx, 3, none⟩ = some (.string (B xa)) := bx5.at_ 3 rfl
              have HC := Lib.hid (read_sd s5 xa hbx HB.out)
              go_wp2_with fail
              refine HC.out.mono ?_
              rintro e w6 ⟨rfl, s6, o6⟩
              have c5 : w6.cell? ⟨gx, 5, none⟩ = some (.string (B xs)) := (bx5.old o6).at_ 5 rfl
              have hadd := add_B f.s xs
              clear s5 c3 bx5 o6
              go_wp2
              go_meet
              case rel => exact ⟨_, s6⟩
            · go_wp2_with fail
              refine (appendF_sd s4 xa xs (by omega) hbx hf (by omega)).mono ?_
              rintro e w5 ⟨rfl, s5, -⟩
              clear s4
              go_wp2
              go_meet
              case rel => exact ⟨_, s5⟩
          · have HA := Lib.hid (read_no _ xa (by omega) w3 sb.dk hE)
            have HB := Lib.hid fun (w4 : World) (o : Old w3 w4) => append_no _ xa xs (by omega) w4 (sb.dk.old o) hE
            generalize fndE ⟨d, m, 5000, L, true, none⟩ xa = E at *
            have hEI : (E == 0) = false := by simpa using hE
            go_wp2_with fail
            refine HA.out.mono ?_
            rintro e w4 ⟨rfl, o4⟩
            have s4 := sb.go o4
            have bx4 := bx.old o4
            have c3 : w4.cell? ⟨gx, 3, none⟩ = some (.string (B xa)) := bx4.at_ 3 rfl
            have c5 : w4.cell? ⟨gx, 5, none⟩ = some (.string (B xs)) := bx4.at_ 5 rfl
            clear sb bx c0 c3' c4' c5'
            go_wp2_with fail
            refine (HB.out w4 o4).mono ?_
            rintro e w5 ⟨rfl, o5⟩
            have s5 := s4.go o5
            clear s4
            go_wp2
            go_meet
            case rel => exact ⟨_, s5⟩
        have hkI3 : (kind == 3) = false := by simpa using hk3
        by_cases hk4 : kind = 4
        · subst hk4
          by_cases hE : fndE ⟨d, m, 5000, L, true, none⟩ xa = 0
          · obtain ⟨f, hf0, -, -, hbx⟩ := fndE_ok hE
            have hf : fnd L xa = some f := hf0
            clear hf0
            have hle := len_le_total (fnd_mem hf)
            have hroom := sb.dk.ok.room
            simp only at hroom
            have i7 : ¬ 9223372036854775807 < f.s.length + xs.length := by omega
            go_wp2_with fail
            refine (read_sd sb xa hbx hf).mono ?_
            rintro e w4 ⟨rfl, s4, o4⟩
            have bx4 := bx.old o4
            have c3 : w4.cell? ⟨gx, 3, none⟩ = some (.string (B xa)) := bx4.at_ 3 rfl
            have c5 : w4.cell? ⟨gx, 5, none⟩ = some (.string (B xs)) := bx4.at_ 5 rfl
            clear sb bx c0 c3' c4' c5'
            by_cases hfit : total L + xs.length ≤ 5000
            · have HA := Lib.hid (append_ok ⟨d, m, 5000, L, true, none⟩ xa xs w4 s4.dk rfl rfl hbx f hf hfit)
              have HB := Lib.hid (show fnd (setF f.blk (f.s ++ xs) f.n L) xa = some { f with s := f.s ++ xs, n := f.n } by rw [fnd_setF, hf]; simp)
              have hox : gx ∉ own ⟨d, m, 5000, L, true, none⟩ := s4.dk.other bx4 (by decide) (by decide) (by decide) (by decide)
              go_wp2_with fail
              refine HA.out.mono ?_
              rintro e w5 ⟨rfl, h5, k5⟩
              have s5 := s4.step h5 k5
              have bx5 := k5.bk bx4 hox
              clear s4 h5 k5 c3 c5 bx4 o4
              have c3 : w5.cell? ⟨gx, 3, none⟩ = some (.string (B xa)) := bx5.at_ 3 rfl
              have HC := Lib.hid (read_sd s5 xa hbx HB.out)
              go_wp2_with fail
              refine HC.out.mono ?_
              rintro e w6 ⟨rfl, s6, o6⟩
              have c5 : w6.cell? ⟨gx, 5, none⟩ = some (.string (B xs)) := (bx5.old o6).at_ 5 rfl
              have hadd := add_B f.s xs
              clear s5 c3 bx5 o6
              go_wp2
              go_meet
              case rel => exact ⟨_, s6⟩
            · go_wp2_with fail
              refine (appendF_sd s4 xa xs (by omega) hbx hf (by omega)).mono ?_
              rintro e w5 ⟨rfl, s5, -⟩
              clear s4
              go_wp2
              go_meet
              case rel => exact ⟨_, s5⟩
          · have HA := Lib.hid (read_no _ xa (by omega) w3 sb.dk hE)
            have HB := Lib.hid fun (w4 : World) (o : Old w3 w4) => append_no _ xa xs (by omega) w4 (sb.dk.old o) hE
            generalize fndE ⟨d, m, 5000, L, true, none⟩ xa = E at *
            have hEI : (E == 0) = false := by simpa using hE
            go_wp2_with fail
            refine HA.out.mono ?_
            rintro e w4 ⟨rfl, o4⟩
            have s4 := sb.go o4
            have bx4 := bx.old o4
            have c3 : w4.cell? ⟨gx, 3, none⟩ = some (.string (B xa)) := bx4.at_ 3 rfl
            have c5 : w4.cell? ⟨gx, 5, none⟩ = some (.string (B xs)) := bx4.at_ 5 rfl
            clear sb bx c0 c3' c4' c5'
            go_wp2_with fail
            refine (HB.out w4 o4).mono ?_
            rintro e w5 ⟨rfl, o5⟩
            have s5 := s4.go o5
            clear s4
            go_wp2
            go_meet
            case rel => exact ⟨_, s5⟩
        have hkI4 : (kind == 4) = false := by simpa using hk4
        by_cases hk5 : kind = 5
        · subst hk5
          go_wp2_with fail
          refine (sync_all sb xa (by omega)).mono ?_
          rintro e w4 ⟨y, M, rfl, s4⟩
          clear sb
          go_wp2
          go_meet
          case rel => exact ⟨M, s4⟩
        have hkI5 : (kind == 5) = false := by simpa using hk5
        by_cases hk6 : kind = 6
        · subst hk6
          go_wp2_with fail
          refine (sync_all sb xa (by omega)).mono ?_
          rintro e w4 ⟨y, M, rfl, s4⟩
          clear sb
          go_wp2
          go_meet
          case rel => exact ⟨M, s4⟩
        have hkI6 : (kind == 6) = false := by simpa using hk6
        by_cases hk7 : kind = 7
        · subst hk7
          go_wp2_with fail
          refine (rename_all sb xa xb (by omega) (by omega)).mono ?_
          rintro e w4 ⟨y, M, rfl, s4⟩
          clear sb
          go_wp2
          go_meet
          case rel => exact ⟨M, s4⟩
        have hkI7 : (kind == 7) = false := by simpa using hk7
        by_cases hk8 : kind = 8
        · subst hk8
          go_wp2_with fail
          refine (delete_all sb xa (by omega)).mono ?_
          rintro e w4 ⟨y, M, rfl, s4⟩
          clear sb
          go_wp2
          go_meet
          case rel => exact ⟨M, s4⟩
        have hkI8 : (kind == 8) = false := by simpa using hk8
        go_wp2
        go_meet
        case rel => exact ⟨_, sb⟩
      case rest =>
        obtain ⟨M, sc⟩ := hcut
        have hso := sc.dk.ok
        have HLs := Lib.hid (list_sd sc)
        have hob := sc.dk.lt
        have hroom := hso.room
        simp only at hroom
        have HR := Lib.hid fun t (ht : t ∈ rise M) => file_of hso ht
        have hsum := sum_rise hso.names
        have hlen : (rise M).length ≤ 200 := by rw [rise_length]; exact hso.many
        go_wp2_with fail
        refine HLs.out.mono ?_
        rintro e w4 ⟨A4, c4, rfl, hT4, s4, -⟩
        clear sc hso HLs hob
        generalize wc.heap.size = base at *
        generalize rise M = R at *
        go_wp2_with fail
        go_loopw [10, 12] (fun n i wx => ∃ q : Nat, q ≤ R.length ∧ i = .int .i64 q ∧ n = .int .i64 (sumN M (R.take q) : Nat) ∧ Strs wx A4 c4 R ∧ Sd w wx ⟨d, m, 5000, M, true, none⟩) (fun _ i _ => R.length - (intOf i).toNat)
        case atStart => exact ⟨0, Nat.zero_le _, rfl, rfl, hT4.strs (fun t ht => by obtain ⟨f, hf, hb, _⟩ := HR.out t ht; have := bad_no hb; omega), s4⟩
        case round =>
          clear hT4 s4
          obtain ⟨q, hq, rfl, rfl, hT, sq⟩ := hrel
          by_cases hlt2 : q < R.length
          · obtain ⟨hm1, b4, o4, rfl, hcl⟩ := hT.at_ q hlt2
            obtain ⟨f, hf, hbt, hfn⟩ := HR.out R[q] (List.getElem_mem hlt2)
            have HSN := Lib.hid (sum_snoc M R q hlt2 f hf)
            have hle := sum_le M R (q + 1)
            rw [HSN.out, hsum] at hle
            have HTK := Lib.hid fun (W : World) (o : Old wr W) => hT.old o
            have HCL := Lib.hid fun (W : World) (o : Old wr W) => cell_old hcl o
            have hbl := bad_no hbt
            generalize R[q] = t at *
            generalize sumN M (R.take q) = N at *
            have HRD := Lib.hid (read_sd sq t hbt hf)
            have hLI : (q : Int) < (R.length : Int) := by omega
            clear sq
            go_wp2_with fail
            refine HRD.out.mono ?_
            rintro e w5 ⟨rfl, s5, o5⟩
            have hc5 := HCL.out w5 o5
            have HSY := Lib.hid (synced_sd s5 t (by omega) hf)
            have hfI : decide ((f.s.length : Int) < (f.n : Int)) = false := by simp; omega
            clear hcl
            go_wp2_with fail
            refine HSY.out.mono ?_
            rintro e w6 ⟨rfl, rfl⟩
            go_wp2
            go_roundw
            case rel => exact ⟨q + 1, by omega, by go_num, by rw [HSN.out]; go_num, HTK.out _ o5, s5⟩
            case measure => simp [intOf]; omega
          · obtain rfl : q = R.length := by omega
            rw [List.take_length, hsum]
            have HZ := Lib.hid (size_sd sq)
            clear sq
            go_wp2_with fail
            refine HZ.out.mono ?_
            rintro e w5 ⟨rfl, s5, -⟩
            have hz : decide ((5000 : Int) < (total M : Int)) = false := by simp; omega
            go_wp2
            go_roundw
            case rel => first | exact ⟨j + 1, M, by omega, by go_num, s5⟩ | ((repeat apply Exists.intro); exact ⟨⟨j + 1, M, by omega, by go_num, s5⟩, rfl⟩)
            case measure => simp [intOf]; omega
    · go_wp2
      go_ret
      exact ⟨rfl, hsd.old⟩

set_option maxRecDepth 100000 in
theorem vdiskSizes_lifted (os : Os) (started : os.Started) (H : Type) (enc : TypeId × Value → H) :
    ReturnsInHanded {} Try.checked os 7 .any (Rows.vdiskSizesSpec.pre6 enc Try.prog Try.f7 Rows.vdiskSizesRow.domain false) (Rows.vdiskSizesSpec.post enc Try.prog Try.f7 false true false false) := by
  refine returnsInHanded_of_change (C := Try.checked) Try.own started (by kernel_rfl) Try.func7
    (ChangeSpec.witness6 (enc := enc) (C := Try.checked) false ⟨#[], #[.slice none 0 0], []⟩ 8 (by kernel_rfl) (by kernel_rfl) (by kernel_rfl) (by kernel_rfl)) ?_
  intro W base args ds gs before hval0 hW hcnd _
  have hval : ∀ (j : Nat) t v, Try.f7.params[j]? = some t → args[j]? = some v → Value.okWide Try.prog W .any base t v := hval0
  have hW' := hW
  obtain ⟨p, q, hA0, hV, rfl, hfz, hnd⟩ := hW
  have hA : DataW.TrodAll enc Try.prog W 0 (fun _ => true) true Try.f7.params.toList args.toList ds p := hA0
  rw [Try.params7] at hA hval
  obtain ⟨v0, d0, rfl, rfl, h0⟩ := trodAll_one hA
  obtain ⟨rfl, rfl⟩ := trodVars_none hV
  have hlt : ∀ x ∈ p, x.block < W.heap.size := fun x hx => hW'.lt x (by simpa using hx)
  have k0 := h0
  obtain ⟨a0, A0, c0, rfl, o0⟩ := open_acts (hval 0 43 v0 rfl rfl) h0 (fun x hx => hlt x (by simp [hx]))
  clear hA0 hval0
  refine (law_sizes a0 A0 c0 W o0).mono fun e W' ⟨he, hb⟩ => ?_
  subst he
  refine ⟨_, rfl, _, _, _, [], p, [], hW', trodAll_mk1 (shut_bool Try.underlying4 _), ?_, rfl, hb.frame _, fun h => by cases h⟩
  have r0 := Below.trod Try.laidOut (by kernel_rfl) (of_decide_eq_true (by kernel_rfl)) k0 hb (fun x hx => hlt x (by simp [hx]))
  exact trodAll_mk1 r0

theorem vdiskSizes_holds : Rows.VdiskSizesSaid :=
  OpenClaim.holds_of_wide 7 Try.f7 rfl rfl rfl rfl rfl rfl rfl ⟨rfl, rfl, rfl, rfl, rfl⟩ rfl rfl rfl rfl rfl (by kernel_rfl) Try.func7 (by kernel_rfl)
    (of_decide_eq_true (by kernel_rfl)) (by unfold Func.isWrapper; first | (rw [if_pos (by decide +kernel)]; kernel_rfl) | (rw [if_neg (by decide +kernel)]; exact ⟨rfl, rfl⟩))
    (fun os started H enc _ => vdiskSizes_lifted os started H enc)
#print axioms vdiskSizes_holds
end Go.Proofs.Ytlhfcfalkmencaa
