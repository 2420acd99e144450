/-
  digits and words of the reference. Conditions: lengths as written.
-/
import Derived.Test.YtacniohflhpgaaaDoorPCel
namespace Go.Proofs.YtacniohflhpgaaaDoor
open Go.RowKit

theorem num_snoc (l : List UInt8) (b : UInt8) : num 0 (l ++ [b]) = num 0 l * 10 + (b.toNat - 48) := by
  rw [num_app, num_cons, num_nil]
/-- The number of the first k digits is small. -/
theorem num_take (l : List UInt8) : ∀ k, k ≤ l.length → (l.take k).all digB = true → num 0 (l.take k) < 10 ^ k := by
  intro k
  induction k with
  | zero => intro _ _; simp [num_nil]
  | succ k ih =>
    intro h1 h2
    rw [List.take_succ_eq_append_getElem (by omega)] at h2 ⊢
    rw [List.all_append, Bool.and_eq_true] at h2
    have h3 := ih (by omega) h2.1
    rw [num_snoc]
    have h4 : digB l[k] = true := by simpa using h2.2
    simp [digB] at h4
    rw [Nat.pow_succ]
    omega
theorem dig_yes {l : List UInt8} {k : Nat} (hk : k < l.length) (h : (l.take k).all digB = true) (hb : 48 ≤ l[k].toNat ∧ l[k].toNat ≤ 57) : (l.take (k + 1)).all digB = true := by
  rw [List.take_succ_eq_append_getElem hk, List.all_append, h]
  simp [digB, hb]
theorem dig_no {l : List UInt8} {k : Nat} (hk : k < l.length) (hb : ¬ (48 ≤ l[k].toNat ∧ l[k].toNat ≤ 57)) : digO l = none := by
  unfold digO
  rw [if_neg]
  rintro ⟨-, -, h⟩
  have := List.all_eq_true.1 h l[k] (List.getElem_mem hk)
  simp [digB] at this
  exact hb this

set_option maxHeartbeats 2000000 in
theorem rdigits_any (l : List UInt8) (w : World) (hl : l.length ≤ 1000000000000000) :
    Calls Tryd.prog 33 #[.string (B l)] w fun e w' => e = .returned (.tuple #[.int .u64 ((digO l).getD 0 : Nat), .bool (digO l).isSome]) ∧ w' = w := by
  obtain ⟨O, hO⟩ : ∃ O, O = digO l := ⟨_, rfl⟩
  rw [← hO]
  have HO := Lib.hid hO
  clear hO
  by_cases hs : l.length ≤ 18
  · have hsI : (l.length : Int) ≤ 18 := by omega
    go_enter Tryd.func33, Tryd.ntmps33
    go_wp2_with fail
    go_loop [4, 5] (fun n i => ∃ k N : Nat, k ≤ l.length ∧ i = .int .i64 k ∧ n = .int .u64 N ∧ Hid (N = num 0 (l.take k) ∧ (l.take k).all digB = true)) (fun _ i => l.length - (intOf i).toNat)
    case atStart => exact ⟨0, 0, Nat.zero_le _, rfl, rfl, Lib.hid ⟨rfl, rfl⟩⟩
    case round =>
      obtain ⟨k, N, hk, rfl, rfl, HN⟩ := hrel
      by_cases hlt : k < l.length
      · have HB := Lib.hid (B_at l k hlt)
        have hN : N < 100000000000000000 := by
          have h1 := num_take l k hk HN.out.2
          rw [← HN.out.1] at h1
          have h2 : 10 ^ k ≤ 10 ^ 17 := Nat.pow_le_pow_right (by decide) (by omega)
          have h3 : (10 : Nat) ^ 17 = 100000000000000000 := by decide
          omega
        go_wp2
        · go_ret2
          exact ⟨by rw [HO.out, dig_no hlt (by rw [← HB.out]; omega)]; rfl, rfl⟩
        · go_round
          case rel =>
            refine ⟨k + 1, N * 10 + (l[k].toNat - 48), by omega, by go_num, congrArg _ (by rw [HB.out] at *; omega), Lib.hid ⟨?_, dig_yes hlt HN.out.2 (by rw [← HB.out]; omega)⟩⟩
            rw [List.take_succ_eq_append_getElem hlt, num_snoc, ← HN.out.1]
          case measure => simp [intOf]; omega
        · go_ret2
          exact ⟨by rw [HO.out, dig_no hlt (by rw [← HB.out]; omega)]; rfl, rfl⟩
      · obtain rfl : k = l.length := by omega
        have hNE : Hid (N = num 0 l ∧ l.all digB = true) := Lib.hid (by have := HN.out; rwa [List.take_length] at this)
        by_cases h0 : l = []
        · subst h0
          go_wp2
          go_ret2
          exact ⟨by rw [HO.out, hNE.out.1]; rfl, rfl⟩
        · have h1 : (1 : Int) ≤ (l.length : Int) := by have := List.length_pos_iff.2 h0; omega
          have HS := Lib.hid (show digO l = some N by unfold digO; rw [if_pos ⟨h0, hs, hNE.out.2⟩, hNE.out.1])
          go_wp2
          go_ret2
          exact ⟨by rw [HO.out, HS.out]; simp, rfl⟩
  · have hsI : (18 : Int) < (l.length : Int) := by omega
    have HS := Lib.hid (digO_long l (by omega))
    go_enter Tryd.func33, Tryd.ntmps33
    go_wp2_with fail
    go_loop [4, 5] (fun n i => ∃ k : Nat, k ≤ l.length ∧ i = .int .i64 k ∧ n = .int .u64 0) (fun _ i => l.length - (intOf i).toNat)
    case atStart => exact ⟨0, Nat.zero_le _, rfl, rfl⟩
    case round =>
      obtain ⟨k, hk, rfl, rfl⟩ := hrel
      by_cases hlt : k < l.length
      · have HB := Lib.hid (B_at l k hlt)
        go_wp2
        · go_ret2
          exact ⟨by rw [HO.out, HS.out]; rfl, rfl⟩
        · go_round
          case rel => exact ⟨k + 1, by omega, by go_num, rfl⟩
          case measure => simp [intOf]; omega
        · go_ret2
          exact ⟨by rw [HO.out, HS.out]; rfl, rfl⟩
      · obtain rfl : k = l.length := by omega
        have h1 : (1 : Int) ≤ (l.length : Int) := by omega
        go_wp2
        go_ret2
        exact ⟨by rw [HO.out, HS.out]; simp; omega, rfl⟩

theorem Tryd.infoStr : (Tryd.prog.info? 9).map (fun i => (i.zero, i.size, i.bytes)) = some (some (.string ByteArray.empty), 1, 16) := by kernel_rfl
/-- A slice of the call's own of these texts. -/
def OwnS (w : World) (base : Nat) (v : Value) (l : List (List UInt8)) : Prop := w.ownsRow base 9 1 v l.length (tx l).toList
theorem OwnS.empty {w : World} {base g : Nat} (h : Bk w g 9 #[]) (hb : base ≤ g) : OwnS w base (.slice (some ⟨g, 0, none⟩) 0 0) [] :=
  ⟨rfl, .inr ⟨g, 0, #[], rfl, hb, h, Nat.le_refl _, by simp, rfl, rfl⟩⟩
theorem OwnS.old {w w' : World} {base : Nat} {v : Value} {l : List (List UInt8)} (h : OwnS w base v l) (k : Old w w') : OwnS w' base v l := row_old h k
theorem tx_snoc (l : List (List UInt8)) (x : List UInt8) : (tx (l ++ [x])).toList = (tx l).toList ++ [.string (B x)] := by simp [tx]
/-- What lies behind such a slice. -/
theorem OwnS.form {w : World} {base : Nat} {v : Value} {l : List (List UInt8)} (h : OwnS w base v l) : ∃ A cap, v = .slice A l.length cap ∧ ∀ (i : Nat) (t : List UInt8), l[i]? = some t → ∃ g, A = some ⟨g, 0, none⟩ ∧ w.cell? ⟨g, i, none⟩ = some (.string (B t)) := by
  have h' := h
  rcases h.2 with ⟨rfl, h0⟩ | ⟨g, cap, cur, hv, hb, hg, hnc, hcm, hcs, htake⟩
  · refine ⟨none, 0, by rw [h0], fun i t ht => ?_⟩
    have : l = [] := List.eq_nil_of_length_eq_zero h0
    subst this
    simp at ht
  · refine ⟨_, cap, hv, fun i t ht => ⟨g, rfl, ?_⟩⟩
    have h1 : (tx l).toList[i]? = some (.string (B t)) := by simp [tx, ht]
    have h3 := World.ownsRow.cells h' (g := g) (by rw [hv]; rfl) _ _ h1
    rw [Addr.add_lit] at h3
    rwa [Nat.zero_add] at h3

theorem splA_hit {c : UInt8} {acc l : List UInt8} {k : Nat} {r : List UInt8} (h : l.drop k = c :: r) : splA c acc (l.drop k) = acc :: splA c [] r := by rw [h]; simp [splA]
theorem splA_miss {c b : UInt8} {acc l : List UInt8} {k : Nat} {r : List UInt8} (h : l.drop k = b :: r) (hb : b ≠ c) : splA c acc (l.drop k) = splA c (acc ++ [b]) r := by rw [h]; simp [splA, hb]
theorem splA_end {c : UInt8} {acc l : List UInt8} : splA c acc (l.drop l.length) = [acc] := by rw [List.drop_length]; rfl
theorem byte_n {b : UInt8} (n : Nat) (hn : n < 256) : ((b.toNat : Int) = (n : Int)) ↔ b = UInt8.ofNat n := by
  constructor
  · intro h
    apply UInt8.toNat.inj
    rw [UInt8.toNat_ofNat']
    omega
  · rintro rfl
    rw [UInt8.toNat_ofNat']
    omega

set_option maxHeartbeats 2000000 in
theorem rwords_any (l : List UInt8) (w : World) (hl : l.length ≤ 10000) :
    Calls Tryd.prog 32 #[.string (B l)] w fun e w' => ∃ v, e = .returned v ∧ OwnS w' w.heap.size v (spl 32 l) ∧ Old w w' := by
  go_enter Tryd.func32, Tryd.ntmps32
  go_wp2_with fail
  go_loopw [3, 4, 5] (fun v t i wr => ∃ (k : Nat) (P : List (List UInt8)) (acc : List UInt8), k ≤ l.length + 1 ∧ i = .int .i64 k ∧ t = .string (B acc) ∧ OwnS wr w.heap.size v P ∧ Old w wr ∧ acc.length ≤ k ∧ P.length ≤ k ∧ Hid ((k ≤ l.length → spl 32 l = P ++ splA 32 acc (l.drop k)) ∧ (k = l.length + 1 → P = spl 32 l))) (fun _ _ i _ => l.length + 1 - (intOf i).toNat)
  case atStart => exact ⟨0, [], [], by omega, rfl, rfl, OwnS.empty (new_bk _ _ _) (Nat.le_refl _), old_alloc _ _, Nat.le_refl _, Nat.le_refl _, Lib.hid ⟨fun _ => rfl, fun h => by omega⟩⟩
  case round =>
    obtain ⟨k, P, acc, hk, rfl, rfl, hown, ho, hacc, hP, HR⟩ := hrel
    by_cases hend : k = l.length + 1
    · subst hend
      have HE := Lib.hid (HR.out.2 rfl)
      obtain ⟨A0, cap0, rfl, -⟩ := hown.form
      have hI : ¬ ((l.length : Int) + 1 ≤ (l.length : Int)) := by omega
      go_wp2
      go_ret
      exact ⟨_, rfl, by have := HE.out; subst this; exact hown, ho⟩
    · have hkl : k ≤ l.length := by omega
      have hkI : (k : Int) ≤ (l.length : Int) := by omega
      have HS := Lib.hid (HR.out.1 hkl)
      by_cases hlt : k < l.length
      · have HD := Lib.hid (drop_cons l k hlt)
        have HB := Lib.hid (B_at l k hlt)
        have hne : ¬ (k : Int) = (l.length : Int) := by omega
        have hneB : ((k : Int) == (l.length : Int)) = false := by rw [beq_eq_false_iff_ne]; exact hne
        by_cases hb : l[k] = 32
        · have hb2 : (B l)[k]'(by simpa [B, ByteArray.size] using hlt) = 32 := HB.out.trans hb
          have HG := Lib.hid (show spl 32 l = (P ++ [acc]) ++ splA 32 [] (l.drop (k + 1)) by rw [HS.out, splA_hit (by rw [HD.out, hb])]; simp)
          clear hb
          go_wp2_with (at_builtin; refine wp_one rfl (.tmp 23) (.tmp 25) 38 9 (.string ByteArray.empty) 16 (by decide) Tryd.underlying38 rfl Tryd.infoStr rfl (W0 := w) (ho.al _) _ _ P.length rfl (row_old hown (old_alloc _ _)) (.string (B acc)) rfl _ _ rfl (new_bk _ _ _) (by omega) ?_; intro v8 w8 n8 o8; refine Hid.out ?_)
          have hown8 : OwnS w8 w.heap.size v8 (P ++ [acc]) := by unfold OwnS; rw [tx_snoc, List.length_append]; exact n8
          refine Lib.hid ?_
          go_wp2
          go_roundw
          case rel => exact ⟨k + 1, P ++ [acc], [], by omega, by go_num, rfl, hown8, o8, Nat.zero_le _, by simp; omega, Lib.hid ⟨fun _ => HG.out, fun h => by omega⟩⟩
          case measure => simp [intOf]; omega
        · have hb2 : ¬ (((B l)[k]'(by simpa [B, ByteArray.size] using hlt)).toNat : Int) = 32 := fun e => hb (HB.out.symm.trans ((byte_n 32 (by decide)).1 e))
          have HG := Lib.hid (show spl 32 l = P ++ splA 32 (acc ++ [l[k]]) (l.drop (k + 1)) by rw [HS.out, splA_miss HD.out hb])
          have hx : (B l).extract k (k + 1) = B [l[k]] := by rw [ext_B, Nat.add_sub_cancel_left, HD.out]; rfl
          clear hb
          generalize l[k] = y at *
          go_wp2
          go_roundw
          case rel => exact ⟨k + 1, P, acc ++ [y], by omega, by go_num, congrArg Value.string (by simp only [add_B]), hown, ho, by simp; omega, by omega, Lib.hid ⟨fun _ => HG.out, fun h => by omega⟩⟩
          case measure => simp [intOf]; omega
      · obtain rfl : k = l.length := by omega
        have HG := Lib.hid (show spl 32 l = P ++ [acc] by rw [HS.out, splA_end])
        go_wp2_with (at_builtin; refine wp_one rfl (.tmp 23) (.tmp 25) 38 9 (.string ByteArray.empty) 16 (by decide) Tryd.underlying38 rfl Tryd.infoStr rfl (W0 := w) (ho.al _) _ _ P.length rfl (row_old hown (old_alloc _ _)) (.string (B acc)) rfl _ _ rfl (new_bk _ _ _) (by omega) ?_; intro v8 w8 n8 o8; refine Hid.out ?_)
        have hown8 : OwnS w8 w.heap.size v8 (P ++ [acc]) := by unfold OwnS; rw [tx_snoc, List.length_append]; exact n8
        refine Lib.hid ?_
        go_wp2
        go_roundw
        case rel => exact ⟨l.length + 1, P ++ [acc], [], by omega, by go_num, rfl, hown8, o8, Nat.zero_le _, by simp; omega, Lib.hid ⟨fun h => by omega, fun _ => HG.out.symm⟩⟩
        case measure => simp [intOf]
end Go.Proofs.YtacniohflhpgaaaDoor
