/-
  Build of table. Conditions: the table is laid; lengths as written.
-/
import Derived.Test.YtlmlopdakbbbjaaGreatDoorTFil
namespace Go.Proofs.YtlmlopdakbbbjaaGreatDoor
open Go.RowKit

theorem join_flat (xs : List (List UInt8)) : Lib.join xs [] = xs.flatten := by
  cases xs with
  | nil => rfl
  | cons x r =>
    rw [Lib.join_cons, List.flatten_cons]
    congr 1
    unfold Lib.joinTail
    congr 1
    simp
theorem B_toList (ts : List (List UInt8)) : (ts.map B).map (·.data.toList) = ts := by
  rw [List.map_map]
  have : ((fun x : ByteArray => x.data.toList) ∘ B) = id := by funext x; simp
  rw [this, List.map_id]
theorem join_any (ts : List (List UInt8)) (hne : ts ≠ []) (A : Option Addr) (cap : Nat) (w : World) (hS : Strs w A cap ts) (hl : ts.length ≤ 1000000) (hf : ts.flatten.length ≤ 10000000) :
    Calls Tryz.prog 21 #[.slice A ts.length cap, .string ⟨#[]⟩] w fun e w' => e = .returned (.string (B ts.flatten)) ∧ Old w w' := by
  have h0 : 0 < ts.length := List.length_pos_iff.2 hne
  obtain ⟨-, b, off, rfl, hc⟩ := hS.at_ 0 h0
  have hlt : b < w.heap.size := World.block_lt_of_cell? w ⟨b, off + 0, none⟩ hc
  have h := Tryz.strings_Join b off cap (ts.map B) ⟨#[]⟩ w (by
    intro j x hx
    rw [List.getElem?_map] at hx
    cases ht : ts[j]? with
    | none => rw [ht] at hx; cases hx
    | some t =>
      rw [ht] at hx
      simp only [Option.map_some, Option.some.injEq] at hx
      obtain ⟨-, b', off', e, hc⟩ := hS.2 j t ht
      injection e with e
      injection e with e1 e2
      subst e1 e2
      rw [hc, ← hx]) hlt (by rw [List.length_map]; omega) (by rw [List.length_map]; exact hS.1) (by rw [B_toList, show (⟨#[]⟩ : ByteArray).data.toList = [] from rfl, join_flat]; omega)
  rw [List.length_map, B_toList, show (⟨#[]⟩ : ByteArray).data.toList = [] from rfl, join_flat] at h
  exact h

/-- What Build answers. -/
def buildTV (l : List Cel) (s : Nat) : Value := .tuple #[.string (B (buildT l s)), .int .i64 (errT l)]
theorem buildTV_no {l : List Cel} {e : Int} (s : Nat) (h : errT l = e) (he : e ≠ 0) : buildTV l s = .tuple #[.string ⟨#[]⟩, .int .i64 e] := by
  rw [buildTV, buildT, h, if_neg he]
theorem buildTV_yes {l : List Cel} (s : Nat) (h : errT l = 0) : buildTV l s = .tuple #[.string (B (tbl l s)), .int .i64 0] := by
  rw [buildTV, buildT, h, if_pos rfl]

set_option maxRecDepth 100000 in
set_option maxHeartbeats 8000000 in
theorem tbuild_any (v : Value) (l : List Cel) (s : Nat) (w : World) (h : CelC w v l) (hok : ∀ c ∈ l, c.ok) (hml : l.length ≤ 1000000) (hs : s < 18446744073709551616) (ht : Tab w) :
    Calls Tryz.prog 7 #[v, .int .u64 s] w fun e w' => e = .returned (buildTV l s) ∧ Old w w' := by
  have hcs := h.cels
  have hh := h
  obtain ⟨A, cap, rfl, hcap, -⟩ := hh
  by_cases h1 : 2000 < l.length
  · have d1 : decide ((2000 : Int) < (l.length : Int)) = true := by simp; omega
    have HV := Lib.hid (buildTV_no s (show errT l = 71 by unfold errT; rw [if_pos h1]) (by decide))
    go_enter Tryz.func7, Tryz.ntmps7
    go_wp2
    go_ret2
    exact ⟨by rw [HV.out]; rfl, Old.re _⟩
  have d1 : decide ((2000 : Int) < (l.length : Int)) = false := by simp; omega
  by_cases h2 : l.length = 0
  · have d2 : ((l.length : Int) == 0) = true := by rw [h2]; rfl
    have HV := Lib.hid (buildTV_no s (show errT l = 1 by unfold errT; rw [if_neg h1, if_pos h2]) (by decide))
    go_enter Tryz.func7, Tryz.ntmps7
    go_wp2
    go_ret2
    exact ⟨by rw [HV.out]; rfl, Old.re _⟩
  have d2 : ((l.length : Int) == 0) = false := by rw [beq_eq_false_iff_ne]; omega
  have hne : l ≠ [] := by rintro rfl; exact h2 rfl
  have HE := Lib.hid (show errT l = if partE (parts l) = 0 then (if rising l = true then 0 else 40) else partE (parts l) by unfold errT; rw [if_neg h1, if_neg h2])
  go_enter Tryz.func7, Tryz.ntmps7
  go_wp2_with fail
  refine (blocksOf_any _ l _ h hok (by omega) ht).mono ?_
  rintro e w1 ⟨vt, rfl, hT, k1⟩
  by_cases h3 : partE (parts l) = 0
  case neg =>
    have d3 : (partE (parts l) != 0) = true := by simpa using h3
    have HV := Lib.hid (buildTV_no s (show errT l = partE (parts l) by rw [HE.out, if_neg h3]) h3)
    go_wp2
    go_ret2
    exact ⟨by rw [HV.out]; rfl, k1⟩
  rw [h3]
  rw [if_pos h3] at HE
  have hT2 := hT h3
  have h4 := partE_zero.1 h3
  clear hT h3
  go_wp2_with fail
  refine (rising_at _ l _ (by omega) (hcs.old k1)).mono ?_
  rintro e w2 ⟨rfl, k2⟩
  cases hr : rising l with
  | false =>
    have HV := Lib.hid (buildTV_no s (show errT l = 40 by rw [HE.out, hr]; rfl) (by decide))
    go_wp2
    go_ret2
    exact ⟨by rw [HV.out]; rfl, k1.tr k2⟩
  | true =>
    have he : errT l = 0 := by rw [HE.out, if_pos hr]
    have HV := Lib.hid (buildTV_yes s he)
    have HT := Lib.hid (show tbl l s = allB l ++ idx (texts l) ++ put (filt l) ++ ftx (allB l).length (idx (texts l)).length (put (filt l)).length s from rfl)
    have hal := allB_len he
    have hfl := (filt_len l (by omega)).1
    have hil := idx_len (texts l)
    have htn := texts_len l
    have hte := texts_each h4
    have htx : texts l ≠ [] := by
      intro e
      rw [e] at htn
      simp at htn
      omega
    have hAB : (texts l).flatten = allB l := rfl
    have b1 : (allB l).length ≤ 700000 := by omega
    have b2 : (idx (texts l)).length ≤ 2000 := by omega
    have b3 : (put (filt l)).length ≤ 20000 := by omega
    have b4 : (texts l).length ≤ 1000 := by omega
    have b5 : ∀ t ∈ texts l, t.length ≤ 100000 := fun t ht => by have := hte t ht; omega
    have b6 : l.length ≤ 2000 := by omega
    clear hal hfl hil htn
    have hrow : ∀ c ∈ l, c.row.length ≤ 100000 := by
      intro c hc
      have : c ∈ (parts l).flatten := by rw [parts_flat]; exact hc
      obtain ⟨p, hp, hcp⟩ := List.mem_flatten.1 this
      have := (mayB_parts ((errB_zero.1 (h4 p hp)).2.1 c hcp)).2.1
      omega
    have o2 := k1.tr k2
    have hS2 := row_old hT2 k2
    have h2' := h.old o2
    clear hT2 k1 k2 HE he h4 hr hok
    obtain ⟨At, ct, rfl, hS⟩ := strs_of_own hS2 (fun t ht => by have := hte t ht; omega)
    clear hS2 hte h1 h2 d1 d2 hml hcap
    generalize texts l = tx at *
    generalize allB l = ab at *
    generalize hfe : filt l = fl at *
    have HFE := Lib.hid hfe
    clear hfe
    go_wp2_with fail
    refine (join_any tx htx At ct _ hS (Nat.le_trans b4 (by decide)) (by rw [hAB]; exact Nat.le_trans b1 (by decide))).mono ?_
    rintro e w3 ⟨rfl, k3⟩
    rw [hAB]
    have o3 := o2.tr k3
    have hS3 := hS.old k3
    go_wp2_with fail
    refine (indexOf_any tx At ct _ hS3 b4 b5 (ht.old o3)).mono ?_
    rintro e w4 ⟨rfl, k4⟩
    have o4 := o3.tr k4
    have h4' := h2'.old (k3.tr k4)
    clear k3 k4 o3 hS3 hS h2' h hcs
    go_wp2_with fail
    refine (filterOf_any _ l _ h4' hne b6 hrow (ht.old o4)).mono ?_
    rintro e w5 ⟨rfl, k5⟩
    rw [HFE.out]
    have o5 := o4.tr k5
    clear k5 o4 h4'
    have u1 := u64_id ab.length (by omega)
    have u2 := u64_id (idx tx).length (by omega)
    have u3 := u64_id (put fl).length (by omega)
    generalize idx tx = ix at *
    generalize put fl = pf at *
    have hB := new_bk w5 52 #[.int .u64 (ab.length : Int), .int .u64 (ix.length : Int), .int .u64 (pf.length : Int), .int .u64 (s : Int)]
    have o6 := o5.al (.cells #[.int .u64 (ab.length : Int), .int .u64 (ix.length : Int), .int .u64 (pf.length : Int), .int .u64 (s : Int)] 52)
    go_wp2_with fail
    refine (text_any ab.length ix.length pf.length s (by omega) (by omega) (by omega) hs _ (ht.old o6)).mono ?_
    rintro e w7 ⟨rfl, k7⟩
    have o7 := o6.tr k7
    have hfx := ftx_len ab.length ix.length pf.length s
    generalize ftx ab.length ix.length pf.length s = fx at *
    have HR := Lib.hid (show (Ending.returned (.tuple #[.string (B ab ++ B ix ++ B pf ++ B fx), .int .i64 0])) = .returned (buildTV l s) by rw [HV.out, HT.out, add_B, add_B, add_B])
    go_wp2
    go_ret2
    exact ⟨HR.out, o7⟩
end Go.Proofs.YtlmlopdakbbbjaaGreatDoor
