/-
  Build of the code. Conditions: the list is a slice that came in; its cells' numbers are of 64 bits.
-/
import Derived.Test.YtlmlopdakbbbjaaGreatDoorEnt
import Derived.Test.YtlmlopdakbbbjaaGreatDoorRise
namespace Go.Proofs.YtlmlopdakbbbjaaGreatDoor
open Go.RowKit

/-- The entries of cells, from a place on, behind the key of the one ahead. -/
def entsFrom : Nat → List UInt8 → List Cel → List UInt8
  | _, _, [] => []
  | p, last, c :: t => ent (lend p last) c ++ entsFrom (p + 1) (key c) t
/-- The bytes of a block. -/
def blk (l : List Cel) : List UInt8 := UInt8.ofNat l.length :: entsFrom 0 [] l
/-- What is wrong with a list: the error's number, or 0. -/
def errB (l : List Cel) : Int := if 255 < l.length then 71 else if l.all mayB = false then 1 else if rising l = false then 40 else 0
def buildV (l : List Cel) : Value := if errB l = 0 then .tuple #[.string (B (blk l)), .int .i64 0] else .tuple #[.string ⟨#[]⟩, .int .i64 (errB l)]
theorem buildV_no {l : List Cel} {e : Int} (h : errB l = e) (he : e ≠ 0) : buildV l = .tuple #[.string ⟨#[]⟩, .int .i64 e] := by rw [buildV, h, if_neg he]
theorem buildV_yes {l : List Cel} (h : errB l = 0) : buildV l = .tuple #[.string (B (blk l)), .int .i64 0] := by rw [buildV, if_pos h]

/-- string(v), of the writer's bytes. -/
theorem run_strW {w : World} {base : Nat} {v : Value} {l : List UInt8} (h : Own w base v l) : (convert 110 9 v).run Tryz.prog w = .ok (.string (B l)) w := by
  rcases h.2 with ⟨rfl, hn⟩ | ⟨g, cap, cur, rfl, _, hg, hnc, _, hcs, htake⟩
  · have : l = [] := List.eq_nil_of_length_eq_zero hn
    subst this
    rw [run_convert_bytes_string w _ _ _ _ _ _ Tryz.underlying110 Tryz.underlying5 Tryz.underlying9]
    simp [Conv.bytesToString]
    rfl
  · rw [run_convert_bytes_string w _ _ _ _ _ _ Tryz.underlying110 Tryz.underlying5 Tryz.underlying9]
    rw [run_bytesToString w ⟨g, 0, none⟩ l.length cap (l.map fun b => (b.toNat : Int)) ?_]
    · rw [fold_push]
      show Result.ok (Value.string ⟨#[] ++ l.toArray⟩) w = _
      rw [Array.empty_append]
    · have h1 := run_loadCells_list (P := Tryz.prog) w ⟨g, 0, none⟩ (bs l) (fun j u hu => World.ownsRow.cells h (g := g) rfl j u hu)
      rw [bs_length] at h1
      rw [h1]
      simp [bs]

theorem Old.keep {w W W' : World} {t g : Nat} (h : Old w W) (k : KeepT t g W W') (h1 : w.heap.size ≤ g) (h2 : g ≤ W.heap.size) : Old w W' := h.trans ((k.below h2).mono h1)

theorem wr_new (w : World) : Wr (w.alloc (.cells #[.slice none 0 0, .string ⟨#[]⟩] 112)) w.heap.size [] [] := ⟨_, new_bk _ _ _, Own.nil _ _⟩

set_option maxRecDepth 100000 in
set_option maxHeartbeats 4000000 in
theorem build_any (b off cap : Nat) (l : List Cel) (w : World) (h : CelsAt w b off l) (hok : ∀ c ∈ l, c.ok) (hml : l.length ≤ 1000000000) :
    Calls Tryz.prog 48 #[.slice (some ⟨b, off, none⟩) l.length cap] w fun e w' => e = .returned (buildV l) ∧ Old w w' := by
  by_cases h255 : 255 < l.length
  · have HV := Lib.hid (buildV_no (l := l) (e := 71) (by unfold errB; rw [if_pos h255]) (by decide))
    go_enter Tryz.func48, Tryz.ntmps48
    go_wp2
    go_ret2
    exact ⟨by rw [HV.out]; rfl, Old.re _⟩
  have HE1 := Lib.hid (show errB l = if l.all mayB = false then 1 else if rising l = false then 40 else 0 by unfold errB; rw [if_neg h255])
  have hI0 : decide ((255 : Int) < (l.length : Int)) = false := by simp; omega
  go_enter Tryz.func48, Tryz.ntmps48
  go_wp2_with fail
  clear hI0
  go_loopw [14] (fun i wr => ∃ k : Nat, k ≤ l.length ∧ i = .int .i64 k ∧ Old w wr ∧ Hid (∀ c ∈ l.take k, mayB c = true)) (fun i _ => l.length - (intOf i).toNat)
  case atStart => exact ⟨0, by omega, rfl, Old.re _, Lib.hid (by simp)⟩
  case round =>
    obtain ⟨k, hk, rfl, hw, HM⟩ := hrel
    by_cases h1 : k < l.length
    · have hx := (h.at_ k h1).old hw
      have HT := Lib.hid (List.take_succ_eq_append_getElem h1)
      have HI := Lib.hid (List.getElem_mem h1)
      generalize l[k] = c at *
      obtain ⟨a0, a1, a2, a3, a4, a5⟩ := hx.held
      go_wp2_with fail
      refine (may_any c _).mono ?_
      rintro e w1 ⟨rfl, hb⟩
      cases hm : mayB c
      · have HV := Lib.hid (buildV_no (l := l) (e := 1) (by rw [HE1.out, if_pos]; rw [List.all_eq_false]; exact ⟨c, HI.out, by simp [hm]⟩) (by decide))
        go_wp2
        go_ret2
        exact ⟨by rw [HV.out]; rfl, (hw.al _).tr hb⟩
      · go_wp2
        go_roundw
        case rel =>
          refine ⟨k + 1, by omega, by go_num, (hw.al _).tr hb, Lib.hid ?_⟩
          intro d hd
          rw [HT.out, List.mem_append] at hd
          rcases hd with hd | hd
          · exact HM.out d hd
          · rw [List.mem_singleton.1 hd]; exact hm
        case measure => simp [intOf]; omega
    · have hkl : k = l.length := by omega
      have hall : ∀ c ∈ l, mayB c = true := by
        have := HM.out
        rwa [hkl, List.take_length] at this
      have HE2 := Lib.hid (show errB l = if rising l = false then 40 else 0 by rw [HE1.out, if_neg]; simp; exact hall)
      clear HE1 HM
      go_wp2_with fail
      refine (rising_any b off cap l _ (by omega) (h.old hw)).mono ?_
      rintro e w1 ⟨rfl, hb⟩
      have o1 := hw.tr hb
      clear hb hw
      cases hr : rising l
      · have HV := Lib.hid (buildV_no (l := l) (e := 40) (by rw [HE2.out, hr]; rfl) (by decide))
        go_wp2
        go_ret2
        exact ⟨by rw [HV.out]; rfl, o1⟩
      · have HV := Lib.hid (buildV_yes (l := l) (by rw [HE2.out, hr]; rfl))
        clear HE2 hr
        go_wp2_with fail
        have hW0 := wr_new w1
        have o2 := o1.al (.cells #[.slice none 0 0, .string ⟨#[]⟩] 112)
        have hg1 := o1.size
        have hg2 : w1.heap.size ≤ (w1.alloc (.cells #[.slice none 0 0, .string ⟨#[]⟩] 112)).heap.size := by simp
        refine (number1_any w1.heap.size [] [] l.length _ hW0 (by simp)).mono ?_
        rintro e w2 ⟨⟨u2, rfl⟩, i2, k2⟩
        have o3 := o2.keep k2 hg1 hg2
        clear o2 hW0 k2 hg2 o1
        rw [List.nil_append] at i2
        generalize w1.heap.size = g at *
        go_wp2_with fail
        go_loopw [31] (fun i wr => ∃ (k : Nat) (pre last : List UInt8), k ≤ l.length ∧ i = .int .i64 k ∧ Old w wr ∧ Wr wr g pre last ∧ pre.length ≤ 1 + 300 * k ∧ last.length ≤ 180 ∧ Hid (blk l = pre ++ entsFrom k last (l.drop k))) (fun i _ => l.length - (intOf i).toNat)
        case atStart => exact ⟨0, _, _, by omega, rfl, o3, i2, by simp, by simp, Lib.hid rfl⟩
        case round =>
          obtain ⟨k, pre, last, hk, rfl, hw, hwr, hpl, hll, HB⟩ := hrel
          by_cases h1 : k < l.length
          · have hx := (h.at_ k h1).old hw
            have HD := Lib.hid (List.drop_eq_getElem_cons h1)
            have hmc := hall _ (List.getElem_mem h1)
            have hoc := hok _ (List.getElem_mem h1)
            generalize l[k] = c at *
            obtain ⟨a0, a1, a2, a3, a4, a5⟩ := hx.held
            go_wp2_with fail
            refine (wcell_any g k pre last c _ (hwr.old (old_alloc _ _)) hmc hoc (by omega) (by omega) (by omega)).mono ?_
            rintro e w4 ⟨⟨u4, rfl⟩, i4, k4⟩
            have hel := ent_len (lend k last) c hmc
            have hkl2 := key_len c hmc
            go_wp2
            go_roundw
            case rel =>
              refine ⟨k + 1, _, _, by omega, by go_num, (hw.al _).keep k4 hg1 (by have := hwr.lt; simp; omega), i4, by simp; omega, hkl2, Lib.hid ?_⟩
              rw [HB.out, HD.out, entsFrom]
              simp
            case measure => simp [intOf]; omega
          · have hkl : k = l.length := by omega
            obtain ⟨v, c0, f0, hlt, hB, hO⟩ := hwr.cs
            have hcv := run_strW hO
            have HP := Lib.hid (show blk l = pre by rw [HB.out, hkl]; simp [entsFrom])
            go_wp2
            go_ret2
            exact ⟨by rw [HV.out, HP.out]; rfl, hw⟩
end Go.Proofs.YtlmlopdakbbbjaaGreatDoor
