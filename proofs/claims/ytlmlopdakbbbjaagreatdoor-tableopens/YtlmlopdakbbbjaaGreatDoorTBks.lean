/-
  The texts of all blocks; the index; the foot: blocksOf, indexOf, text of table. Conditions: the table is laid; lengths as written.
-/
import Derived.Test.YtlmlopdakbbbjaaGreatDoorTNum
namespace Go.Proofs.YtlmlopdakbbbjaaGreatDoor
open Go.RowKit

theorem Prts.form {w : World} {base : Nat} {v : Value} {ps : List (List Cel)} (h : Prts w base v ps) : ∃ A cap, v = .slice A ps.length cap := by
  obtain ⟨vs, h1, -, -⟩ := h
  rcases h1.2 with ⟨rfl, h0⟩ | ⟨g', cap, cur, rfl, _⟩
  · exact ⟨none, 0, by rw [h0]⟩
  · exact ⟨_, _, rfl⟩
theorem Prts.at_ {w : World} {base cap : Nat} {A : Option Addr} {ps : List (List Cel)} (h : Prts w base (.slice A ps.length cap) ps) (k : Nat) (hk : k < ps.length) :
    ∃ g b off c, A = some ⟨g, 0, none⟩ ∧ w.cell? ⟨g, k, none⟩ = some (.slice (some ⟨b, off, none⟩) ps[k].length c) ∧ ps[k].length ≤ c ∧ CelsAt w b off ps[k] := by
  obtain ⟨vs, h1, h2, h3⟩ := h
  obtain ⟨b, off, c, e, h4, h5⟩ := h3 k ps[k] (List.getElem?_eq_getElem hk)
  have h1' := h1
  rcases h1'.2 with ⟨e1, h0⟩ | ⟨g', cap', cur, e1, _⟩
  · omega
  · injection e1 with e2 e3 e4
    subst e2
    have := World.ownsRow.cells h1 (g := g') rfl k _ e
    rw [Addr.add_lit, Nat.zero_add] at this
    exact ⟨g', b, off, c, rfl, this, h4, h5⟩
theorem partE_at {ps : List (List Cel)} {k : Nat} (hk : k < ps.length) (h : ∀ p ∈ ps.take k, errB p = 0) (he : errB ps[k] ≠ 0) : partE ps = errB ps[k] := by
  induction k generalizing ps with
  | zero =>
    cases ps with
    | nil => simp at hk
    | cons p ps => simp only [List.getElem_cons_zero] at he ⊢; rw [partE, if_neg he]
  | succ k ih =>
    cases ps with
    | nil => simp at hk
    | cons p ps =>
      simp only [List.getElem_cons_succ] at he ⊢
      rw [partE, if_pos (h p (by simp))]
      exact ih (by simpa using hk) (fun q hq => h q (by simp [hq])) he

theorem row_base {w : World} {b b' : Nat} {e : TypeId} {k n : Nat} {v : Value} {vs : List Value} (h : w.ownsRow b' e k v n vs) (hb : b ≤ b') : w.ownsRow b e k v n vs := by
  refine ⟨h.1, ?_⟩
  rcases h.2 with h1 | ⟨gg, cap, cur, hv, hg, rest⟩
  · exact .inl h1
  · exact .inr ⟨gg, cap, cur, hv, Nat.le_trans hb hg, rest⟩
theorem ts_snoc (l : List (List UInt8)) (x : List UInt8) : ts (l ++ [x]) = ts l ++ [.string (B x)] := by simp [ts]
set_option maxRecDepth 100000 in
set_option maxHeartbeats 4000000 in
theorem blocksOf_any (v : Value) (l : List Cel) (w : World) (h : CelC w v l) (hok : ∀ c ∈ l, c.ok) (hml : l.length ≤ 2000) (ht : Tab w) :
    Calls Tryz.prog 19 #[v] w fun e w' => ∃ v', e = .returned (.tuple #[v', .int .i64 (partE (parts l))]) ∧ (partE (parts l) = 0 → w'.ownsRow w.heap.size 9 1 v' (texts l).length (ts (texts l))) ∧ Old w w' := by
  have hpl := parts_len l
  have HE := Lib.hid (parts_each l)
  go_enter Tryz.func19, Tryz.ntmps19
  go_wp2_with fail
  refine (parts_any v l _ h (by omega)).mono ?_
  rintro e w1 ⟨vp, rfl, hP, k1⟩
  obtain ⟨A, cap, rfl⟩ := hP.form
  have HT := Lib.hid (show texts l = (parts l).map fun p => put (blk p) from rfl)
  have HOK := Lib.hid (show ∀ p ∈ parts l, ∀ c ∈ p, c.ok from fun p hp c hc => hok c ((HE.out p hp).2.2 c hc))
  generalize hq : parts l = ps at *
  have HQ := Lib.hid hq
  clear hq
  have hps : ps.length ≤ 251 := by omega
  clear hpl hok h
  go_wp2_with fail
  go_loopw [4, 12] (fun vt i wr => ∃ k : Nat, k ≤ ps.length ∧ i = .int .i64 k ∧ wr.ownsRow w1.heap.size 9 1 vt k (ts ((ps.take k).map fun p => put (blk p))) ∧ Hid (∀ p ∈ ps.take k, errB p = 0) ∧ Old w1 wr) (fun _ i _ => ps.length - (intOf i).toNat)
  case atStart => exact ⟨0, Nat.zero_le _, rfl, World.ownsRow_nil _ _ _ _, Lib.hid (by simp), Old.re _⟩
  case round =>
    obtain ⟨k, hk, rfl, hown, HZ, hw1⟩ := hrel
    by_cases hlt : k < ps.length
    · obtain ⟨g, b, off, c, rfl, hc, hcl, hC⟩ := (hP.old hw1).at_ k hlt
      have HTk := Lib.hid (show ps.take (k + 1) = ps.take k ++ [ps[k]] from List.take_succ_eq_append_getElem hlt)
      have HM := Lib.hid (List.getElem_mem hlt)
      have HA := Lib.hid (fun he => partE_at hlt HZ.out he)
      generalize ps[k] = p at *
      have h8 := (HE.out p HM.out).2.1
      have i1 : (k : Int) < (ps.length : Int) := by omega
      go_wp2_with fail
      refine (build_at _ p _ (.inr ⟨b, off, c, rfl, hC⟩) (HOK.out p HM.out) (by omega)).mono ?_
      rintro e w2 ⟨rfl, k2⟩
      by_cases he : errB p = 0
      · rw [buildV_yes he]
        have hbl := blk_len8 p he h8
        have ht2 := ht.old (k1.tr (hw1.tr k2))
        go_wp2_with fail
        refine (tput_any (blk p) (by omega) _ ht2).mono ?_
        rintro e w3 ⟨rfl, k3⟩
        have o3 := hw1.tr (k2.tr k3)
        have ho3 := row_old hown (k2.tr k3)
        go_wp2_with (at_builtin; refine wp_one rfl (.tmp 24) (.tmp 27) 45 9 (.string ByteArray.empty) 16 (by decide) Tryz.underlying45 rfl Tryz.infoStr rfl (W0 := w1) (o3.al _) _ _ k rfl (row_old ho3 (old_alloc _ _)) (.string (B (put (blk p)))) rfl w3.heap.size 1 rfl (new_bk _ _ _) (by omega) ?_; intro v4 w4 n4 o4)
        go_roundw
        case rel =>
          refine ⟨k + 1, by omega, by go_num, ?_, Lib.hid ?_, o4⟩
          · rw [HTk.out, List.map_append, List.map_cons, List.map_nil, ts_snoc]; exact n4
          · intro q hq
            rw [HTk.out, List.mem_append] at hq
            rcases hq with hq | hq
            · exact HZ.out q hq
            · rw [List.mem_singleton.1 hq]; exact he
        case measure => simp [intOf]; omega
      · rw [buildV_no rfl he]
        have hne : (errB p != 0) = true := by simpa using he
        go_wp2
        go_ret2
        refine ⟨.slice none 0 0, ?_, fun h0 => ?_, k1.tr (hw1.tr k2)⟩
        · rw [HQ.out, HA.out he]; rfl
        · rw [HQ.out, HA.out he] at h0; exact absurd h0 he
    · have e : k = ps.length := by omega
      subst e
      rw [List.take_length] at hown HZ
      have HP0 := Lib.hid (partE_zero.2 HZ.out)
      go_wp2
      go_ret2
      refine ⟨u4, by rw [HQ.out, HP0.out]; rfl, fun _ => ?_, k1.tr hw1⟩
      rw [HT.out, List.length_map]
      exact row_base hown k1.size
end Go.Proofs.YtlmlopdakbbbjaaGreatDoor
