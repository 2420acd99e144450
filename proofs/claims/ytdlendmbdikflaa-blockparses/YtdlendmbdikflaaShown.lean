/-
  The statements' anchor and their bound: shown answers true; bounded. Build and Parse of a list that came in. No conditions but those written.
-/
import Derived.Test.YtdlendmbdikflaaBlk
namespace Go.Proofs.Ytdlendmbdikflaa
open Go.RowKit

set_option maxHeartbeats 1000000 in
theorem build_none (A : Option Addr) (cap : Nat) (w : World) :
    Calls Try.prog 11 #[.slice A 0 cap] w fun e w' => e = .returned (buildV []) ∧ Old w w' := by
  have HV := Lib.hid (buildV_yes (l := []) rfl)
  go_enter Try.func11, Try.ntmps11
  go_wp2_with fail
  refine wp_loop_rounds 1 ?_
  rw [rounds_succ]
  go_wp2_with fail
  refine (rising_none A cap w).mono ?_
  rintro e w1 ⟨rfl, hb⟩
  go_wp2_with fail
  have hg1 := hb.size
  refine (number1_any w1.heap.size [] [] 0 _ (wr_new w1) (by simp)).mono ?_
  rintro e w2 ⟨⟨u2, rfl⟩, i2, k2⟩
  have o3 := (hb.al _).keep k2 hg1 (by simp)
  go_wp2_with fail
  refine wp_loop_rounds 1 ?_
  rw [rounds_succ]
  obtain ⟨v, c0, f0, hlt, hB, hO⟩ := i2.cs
  have hcv := run_strW hO
  go_wp2
  go_ret2
  exact ⟨by rw [HV.out]; rfl, o3⟩
theorem build_at (v : Value) (l : List Cel) (w : World) (h : Cels w v l) (hok : ∀ c ∈ l, c.ok) (hml : l.length ≤ 1000000000) :
    Calls Try.prog 11 #[v] w fun e w' => e = .returned (buildV l) ∧ Old w w' := by
  rcases h with ⟨rfl, A, cap, rfl⟩ | ⟨b, off, cap, rfl, h⟩
  · exact build_none A cap w
  · exact build_any b off cap l w h hok hml

def cA : Cel := ⟨[97], [99], 2, 0, false, [120]⟩
def cB : Cel := ⟨[97], [99], 1, 0, true, []⟩
theorem cAB_ok : ∀ c ∈ [cA, cB], c.ok := by
  intro c hc
  rcases List.mem_cons.1 hc with rfl | hc
  · exact ⟨by decide, by decide⟩
  · rw [List.mem_singleton.1 hc]; exact ⟨by decide, by decide⟩
theorem cAB_err : errB [cA, cB] = 0 := by decide
theorem new_cels (w : World) : CelsAt (w.alloc (.cells ((cells cA) ++ (cells cB)) 39)) w.heap.size 0 [cA, cB] := by
  have hb := new_bk w 39 ((cells cA) ++ (cells cB))
  intro i c hc
  match i, hc with
  | 0, hc =>
    simp only [List.getElem?_cons_zero, Option.some.injEq] at hc
    subst hc
    exact ⟨hb.cell 0, hb.cell 1, hb.cell 2, hb.cell 3, hb.cell 4, hb.cell 5⟩
  | 1, hc =>
    simp only [List.getElem?_cons_zero, List.getElem?_cons_succ, Option.some.injEq] at hc
    subst hc
    exact ⟨hb.cell 6, hb.cell 7, hb.cell 8, hb.cell 9, hb.cell 10, hb.cell 11⟩

set_option maxRecDepth 100000 in
set_option maxHeartbeats 4000000 in
theorem shown_any (w : World) : Calls Try.prog 10 #[] w fun e w' => e = .returned (.bool true) ∧ Old w w' := by
  go_enter Try.func10, Try.ntmps10
  go_wp2_with fail
  have hC : CelsAt (w.alloc (.cells #[.string ⟨#[97]⟩, .string ⟨#[99]⟩, .int .u64 2, .int .u64 0, .bool false, .string ⟨#[120]⟩, .string ⟨#[97]⟩, .string ⟨#[99]⟩, .int .u64 1, .int .u64 0, .bool true, .string ⟨#[]⟩] 39)) w.heap.size 0 [cA, cB] := new_cels w
  refine (build_any w.heap.size 0 2 [cA, cB] _ hC cAB_ok (by decide)).mono ?_
  rintro e w1 ⟨rfl, k1⟩
  have o1 := (old_alloc w _).tr k1
  have hC1 := hC.old k1
  clear hC k1
  rw [buildV_yes cAB_err]
  go_wp2_with fail
  have hbl := (blk_len [cA, cB] cAB_err).1
  refine (parse_any (blk [cA, cB]) (by omega) _).mono ?_
  rintro e w2 ⟨v, rfl, hP, k2⟩
  have hpo := parseO_blk [cA, cB] cAB_err cAB_ok
  rw [show parseE (blk [cA, cB]) = 0 by unfold parseE; rw [hpo]]
  rw [hpo] at hP
  have o2 := o1.tr k2
  have hC2 := hC1.old k2
  clear hpo k2 hC1 o1 hbl
  generalize blk [cA, cB] = sB at *
  rcases hP with ⟨h, _⟩ | ⟨b, off, cap, rfl, hM⟩
  · cases h
  obtain ⟨m0, m1, m2, m3, m4, m5⟩ := (hM.at_ 1 (by decide)).held
  obtain ⟨l0, l1, l2, l3, l4, l5⟩ := (hC2.at_ 1 (by decide)).held
  simp only [List.getElem_cons_succ, List.getElem_cons_zero, Nat.zero_add, Nat.one_mul, Nat.reduceAdd] at m0 m1 m2 m3 m4 m5 l0 l1 l2 l3 l4 l5
  have he := fun W => eqlCell cB cB W
  rw [show eqB cB cB = true by decide] at he
  have hsh : share [97, 98, 99] [97, 98, 100] = 2 := by decide
  simp only [Option.getD_some, List.length_cons, List.length_nil, Nat.reduceAdd]
  go_wp2_with fail
  go_quiet ((go_at_call 13; refine Calls.quiet_of (shared_quiet [97, 98, 99] [97, 98, 100] _ (by decide))))
  go_wp2
  go_ret
  exact ⟨rfl, o2.dn _⟩

/-- The statements' bound of a cell, and of a list. -/
def bd1 (c : Cel) : Bool := decide (c.row.length ≤ 100) && decide (c.col.length ≤ 100) && decide (c.val.length ≤ 200)
def bdL (l : List Cel) : Bool := l.all bd1 && decide (l.length ≤ 300)
theorem bd1_yes {c : Cel} (h1 : c.row.length ≤ 100) (h2 : c.col.length ≤ 100) (h3 : c.val.length ≤ 200) : bd1 c = true := by simp [bd1, h1, h2, h3]
theorem bdL_no {l : List Cel} {c : Cel} (hc : c ∈ l) (h : bd1 c = false) : false = bdL l := by
  have : l.all bd1 = false := by rw [List.all_eq_false]; exact ⟨c, hc, by simp [h]⟩
  simp [bdL, this]

set_option maxHeartbeats 2000000 in
theorem bounded_any (b off cap : Nat) (l : List Cel) (w : World) (h : CelsAt w b off l) (hml : l.length ≤ maxLen) :
    Calls Try.prog 9 #[.slice (some ⟨b, off, none⟩) l.length cap] w fun e w' => e = .returned (.bool (bdL l)) ∧ w = w' := by
  have hmx : l.length ≤ 9223372036854775807 := by unfold maxLen at hml; omega
  clear hml
  go_enter Try.func9, Try.ntmps9
  go_wp2_with fail
  go_loop [3] (fun i => ∃ k : Nat, k ≤ l.length ∧ i = .int .i64 k ∧ Hid (∀ c ∈ l.take k, bd1 c = true)) (fun i => l.length - (intOf i).toNat)
  case atStart => exact ⟨0, by omega, rfl, Lib.hid (by simp)⟩
  case round =>
    obtain ⟨k, hk, rfl, HM⟩ := hrel
    by_cases h1 : k < l.length
    · have hx := h.at_ k h1
      have HT := Lib.hid (List.take_succ_eq_append_getElem h1)
      have HI := Lib.hid (List.getElem_mem h1)
      generalize l[k] = c at *
      obtain ⟨a0, a1, a2, a3, a4, a5⟩ := hx.held
      by_cases g1 : c.row.length ≤ 100
      case neg =>
        have d1 : decide ((100 : Int) < (c.row.length : Int)) = true := by simp; omega
        have HB := Lib.hid (bdL_no HI.out (show bd1 c = false by simp [bd1, g1]))
        go_wp2
        go_ret
        exact ⟨ret_bool HB.out, rfl⟩
      have d1 : decide ((100 : Int) < (c.row.length : Int)) = false := by simp; omega
      by_cases g2 : c.col.length ≤ 100
      case neg =>
        have d2 : decide ((100 : Int) < (c.col.length : Int)) = true := by simp; omega
        have HB := Lib.hid (bdL_no HI.out (show bd1 c = false by simp [bd1, g2]))
        go_wp2
        go_ret
        exact ⟨ret_bool HB.out, rfl⟩
      have d2 : decide ((100 : Int) < (c.col.length : Int)) = false := by simp; omega
      by_cases g3 : c.val.length ≤ 200
      case neg =>
        have d3 : decide ((200 : Int) < (c.val.length : Int)) = true := by simp; omega
        have HB := Lib.hid (bdL_no HI.out (show bd1 c = false by simp [bd1, g3]))
        go_wp2
        go_ret
        exact ⟨ret_bool HB.out, rfl⟩
      have d3 : decide ((200 : Int) < (c.val.length : Int)) = false := by simp; omega
      have HB := Lib.hid (bd1_yes g1 g2 g3)
      go_wp2
      go_round
      case rel =>
        refine ⟨k + 1, by omega, by go_num, Lib.hid ?_⟩
        intro d hd
        rw [HT.out, List.mem_append] at hd
        rcases hd with hd | hd
        · exact HM.out d hd
        · rw [List.mem_singleton.1 hd]; exact HB.out
      case measure => simp [intOf]; omega
    · have hkl : k = l.length := by omega
      have hall : l.all bd1 = true := by
        rw [List.all_eq_true]
        have := HM.out
        rwa [hkl, List.take_length] at this
      have HB := Lib.hid (show bdL l = decide (l.length ≤ 300) by simp [bdL, hall])
      clear hall HM
      go_wp2
      go_ret
      refine ⟨ret_bool ?_, rfl⟩
      rw [HB.out, Bool.eq_iff_iff]
      simp
      try omega
set_option maxHeartbeats 1000000 in
theorem bounded_none (A : Option Addr) (cap : Nat) (w : World) :
    Calls Try.prog 9 #[.slice A 0 cap] w fun e w' => e = .returned (.bool (bdL [])) ∧ w = w' := by
  go_enter Try.func9, Try.ntmps9
  go_wp2_with fail
  refine wp_loop_rounds 1 ?_
  rw [rounds_succ]
  go_wp2
  go_ret
  exact ⟨rfl, rfl⟩
theorem bounded_at (v : Value) (l : List Cel) (w : World) (h : Cels w v l) (hml : l.length ≤ maxLen) :
    Calls Try.prog 9 #[v] w fun e w' => e = .returned (.bool (bdL l)) ∧ w = w' := by
  rcases h with ⟨rfl, A, cap, rfl⟩ | ⟨b, off, cap, rfl, h⟩
  · exact bounded_none A cap w
  · exact bounded_any b off cap l w h hml
theorem bdL_len {l : List Cel} (h : bdL l = true) : l.length ≤ 300 := by
  unfold bdL at h
  rw [Bool.and_eq_true] at h
  simpa using h.2
end Go.Proofs.Ytdlendmbdikflaa
