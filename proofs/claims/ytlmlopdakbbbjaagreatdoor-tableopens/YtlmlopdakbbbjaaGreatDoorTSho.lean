/-
  The statements' anchor of layer 5: shown answers true. Condition: the table is laid.
-/
import Derived.Test.YtlmlopdakbbbjaaGreatDoorTShn
namespace Go.Proofs.YtlmlopdakbbbjaaGreatDoor
open Go.RowKit

theorem nine_len : (nine 9).length = 9 := rfl
theorem nine_parts : parts (nine 9) = [(nine 9).take 8, (nine 9).drop 8] := by
  rw [parts_cons (by decide), parts_cons (l := (nine 9).drop 8) (by decide), show ((nine 9).drop 8).drop 8 = [] from rfl, parts_nil]
  rfl
theorem nine_ok : ∀ c ∈ nine 9, c.ok := by
  intro c hc
  unfold nine at hc
  obtain ⟨k, hk, rfl⟩ := List.mem_map.1 hc
  have := List.mem_range.1 hk
  exact ⟨by show 100 - k < _; omega, by show 1 < _; omega⟩
theorem nine_err : errT (nine 9) = 0 := by
  refine errT_zero.2 ⟨by decide, by decide, ?_, by decide +kernel⟩
  rw [nine_parts]
  intro p hp
  rcases List.mem_cons.1 hp with rfl | hp
  · decide +kernel
  · rw [List.mem_singleton.1 hp]; decide +kernel
theorem nine_row : (rowC (nine 9) 7 [98]).length = 3 := by
  have hm : mayL (filt (nine 9)) [98] = true := may_has _ _ _ (by decide +kernel)
  have h1 : lookP (nine 9) [98] = [(nine 9).take 8, (nine 9).drop 8].filter (inP [98]) := by
    unfold lookP
    rw [if_pos hm, nine_parts]
  unfold rowC
  rw [h1]
  decide +kernel

set_option maxRecDepth 100000 in
set_option maxHeartbeats 8000000 in
theorem shown_any (w : World) (ht : Tab w) : Calls Tryz.prog 6 #[] w fun e w' => e = .returned (.bool true) ∧ Old w w' := by
  have hp2 : (parts (nine 9)).length = 2 := by rw [nine_parts]; rfl
  have hr3 := nine_row
  have hO := openO_tbl (nine 9) 7 (by decide) nine_err nine_ok
  have hbl := (tbl_len 7 nine_err).2
  have hbt := buildTV_yes 7 nine_err
  have hl9 := nine_len
  have hok := nine_ok
  obtain ⟨c8, h8, h83⟩ : ∃ c, ((nine 9).map (overC 7))[8]? = some c ∧ c.seq = 7 := ⟨_, rfl, rfl⟩
  go_enter Tryz.func6, Tryz.ntmps6
  go_wp2_with fail
  refine (nine_any _).mono ?_
  rintro e w1 ⟨v1, rfl, ho, k1⟩
  have hC := ho.room
  obtain ⟨A1, n1, c1, rfl⟩ := ho.form
  go_wp2_with fail
  refine (tbuild_any _ (nine 9) 7 _ hC hok (by omega) (by decide) (ht.old k1)).mono ?_
  rintro e w2 ⟨rfl, k2⟩
  rw [hbt]
  have o2 := k1.tr k2
  clear k1 k2 ho hC hbt
  generalize tbl (nine 9) 7 = s at *
  go_wp2_with fail
  refine (open_any s (by omega) _ (ht.old o2)).mono ?_
  rintro e w3 ⟨k3, ⟨hN, -⟩ | ⟨l, q, g, hO2, hg, rfl, hT⟩⟩
  · rw [hO] at hN; cases hN
  rw [hO] at hO2
  injection hO2 with hO2
  injection hO2 with e1 e2
  subst e1 e2
  have o3 := o2.tr k3
  clear o2 k3 hO hg
  generalize nine 9 = L at *
  go_wp2_with fail
  refine (cells_any g L 7 _ hT (by omega)).mono ?_
  rintro e w4 ⟨v4, rfl, hO4, k4⟩
  have o4 := o3.tr k4
  have hT4 := hT.old k4
  clear o3 k4 hT
  have hml : (L.map (overC 7)).length = 9 := by rw [List.length_map]; exact hl9
  generalize L.map (overC 7) = M at *
  rcases hO4.cels with ⟨hx, -⟩ | ⟨b, off, cap, rfl, hM⟩
  · rw [hx] at hml; cases hml
  rw [hml]
  obtain ⟨a0, a1, a2, a3, a4, a5⟩ := (hM 8 c8 h8).held
  rw [h83] at a3
  clear hO4
  go_wp2_with fail
  refine (blocksN_any g L 7 _ hT4 (by omega)).mono ?_
  rintro e w5 ⟨rfl, k5⟩
  rw [hp2]
  have o5 := o4.tr k5
  have hT5 := hT4.old k5
  clear o4 k5 hT4 a0 a1 a2 a3 a4 a5
  go_wp2_with fail
  refine (many_any g L 7 _ hT5).mono ?_
  rintro e w6 ⟨rfl, rfl⟩
  rw [hl9]
  go_wp2_with fail
  refine (seq_any g L 7 _ hT5).mono ?_
  rintro e w6 ⟨rfl, rfl⟩
  go_wp2_with fail
  rw [show (⟨#[98]⟩ : ByteArray) = B [98] from rfl]
  refine (row_any g L 7 [98] _ hT5 (by omega) (by decide) (ht.old o5)).mono ?_
  rintro e w6 ⟨v6, base, rfl, hO6, k6⟩
  have o6 := o5.tr k6
  have hr := hO6.room
  obtain ⟨A6, c6, rfl, -⟩ := hr
  rw [hr3]
  go_wp2
  go_ret
  exact ⟨rfl, o6⟩
end Go.Proofs.YtlmlopdakbbbjaaGreatDoor
