/-
  Cells of the reference. Conditions: the text's length as written.
-/
import Derived.Test.YtacniohflhpgaaaDoorPRln
namespace Go.Proofs.YtacniohflhpgaaaDoor
open Go.RowKit

theorem cut_more {s : List UInt8} {f k : Nat} (h : f ≤ k) (hk : k < s.length) : (s.drop f).take (k + 1 - f) = (s.drop f).take (k - f) ++ [s[k]] := by
  rw [show k + 1 - f = (k - f) + 1 by omega, List.take_succ_eq_append_getElem (by simp; omega)]
  congr 2
  rw [List.getElem_drop]
  congr 1
  omega
theorem cut_none (s : List UInt8) (k : Nat) : (s.drop k).take (k - k) = [] := by simp
/-- What is known behind k bytes, j lines, the line at hand beginning at f. -/
def Kr (s : List UInt8) (k f j : Nat) (acc : List Cel) : Prop :=
  (k ≤ s.length → f ≤ k ∧ scan 0 (spl 10 s) = pre acc (scan j (splA 10 ((s.drop f).take (k - f)) (s.drop k)))) ∧ (k = s.length + 1 → scan 0 (spl 10 s) = .ok acc)
theorem Kr.zero (s : List UInt8) : Kr s 0 0 0 [] := ⟨fun _ => ⟨Nat.le_refl _, by rw [pre_nil]; rfl⟩, fun h => by omega⟩
theorem Kr.on {s : List UInt8} {k f j : Nat} {acc : List Cel} (h : Kr s k f j acc) (hk : k < s.length) (hb : s[k] ≠ 10) : Kr s (k + 1) f j acc := by
  obtain ⟨h1, h2⟩ := h.1 (by omega)
  refine ⟨fun _ => ⟨by omega, ?_⟩, fun e => by omega⟩
  rw [h2, splA_miss (drop_cons s k hk) hb, cut_more h1 hk]
/-- The line at hand ends here. -/
theorem Kr.cut {s : List UInt8} {k f j : Nat} {acc : List Cel} (h : Kr s k f j acc) (hk : k ≤ s.length) (hb : ∀ hk : k < s.length, s[k] = 10) :
    ∃ R, scan 0 (spl 10 s) = pre acc (scan j (((s.drop f).take (k - f)) :: R)) ∧ (∀ acc', scan 0 (spl 10 s) = pre acc' (scan (j + 1) R) → Kr s (k + 1) (k + 1) (j + 1) acc') := by
  obtain ⟨h1, h2⟩ := h.1 hk
  by_cases hlt : k < s.length
  · refine ⟨splA 10 [] (s.drop (k + 1)), ?_, fun acc' ha => ⟨fun _ => ⟨Nat.le_refl _, ?_⟩, fun e => ?_⟩⟩
    · rw [h2, splA_hit (by rw [drop_cons s k hlt, hb hlt])]
    · rw [ha, cut_none]
    · omega
  · obtain rfl : k = s.length := by omega
    refine ⟨[], ?_, fun acc' ha => ⟨fun e => by omega, fun _ => ?_⟩⟩
    · rw [h2, splA_end]
    · rw [ha]; simp [scan, pre, Except.map]
theorem nothing_head {x : List UInt8} (h0 : 0 < x.length) : nothing x = decide (x[0] = 35) := by
  cases x with
  | nil => cases h0
  | cons y v => simp [nothing]
theorem pre_err (a : List Cel) (k : Nat) : pre a (.error k) = .error k := rfl

set_option maxHeartbeats 8000000 in
theorem rcells_any (s : List UInt8) (w : World) (hl : s.length ≤ 1000000) :
    Calls Tryd.prog 10 #[.string (B s)] w fun e w' => Out w w' s e := by
  by_cases hw : 4000 < s.length
  · have HN : Hid (outN s = 0 ∧ outE s = 71 ∧ outL s = []) := Lib.hid ⟨if_pos hw, if_pos hw, if_pos hw⟩
    have hi : (4000 : Int) < (s.length : Int) := by omega
    go_enter Tryd.func10, Tryd.ntmps10
    go_wp2
    exact bodyPost_ret (v := .tuple #[.slice none 0 0, .int .i64 0, .int .i64 71]) (by simp [results, Tryd.results10, go_sem]) rfl ⟨.slice none 0 0, by rw [HN.out.1, HN.out.2.1]; rfl, by rw [HN.out.2.2]; exact OwnC.nil _ _, Old.re _⟩
  · have HN : Hid (outN s = resN (scan 0 (spl 10 s)) ∧ outE s = resE (scan 0 (spl 10 s)) ∧ outL s = resL (scan 0 (spl 10 s))) := Lib.hid ⟨if_neg hw, if_neg hw, if_neg hw⟩
    have hi : (s.length : Int) ≤ 4000 := by omega
    go_enter Tryd.func10, Tryd.ntmps10
    go_wp2_with fail
    go_loopw [5, 6, 7, 8] (fun v n f i wr => ∃ (k fr j : Nat) (acc : List Cel), k ≤ s.length + 1 ∧ i = .int .i64 k ∧ f = .int .i64 fr ∧ n = .int .i64 (j + 1) ∧ fr ≤ k ∧ j ≤ k ∧ acc.length ≤ k ∧ OwnC wr w.heap.size v acc ∧ Old w wr ∧ Hid (Kr s k fr j acc)) (fun _ _ _ i _ => s.length + 1 - (intOf i).toNat)
    case atStart => exact ⟨0, 0, 0, [], by omega, rfl, rfl, rfl, Nat.le_refl _, Nat.le_refl _, Nat.le_refl _, own_empty (new_bk _ _ _) (Nat.le_refl _), old_alloc _ _, Lib.hid (Kr.zero s)⟩
    case round =>
      obtain ⟨k, fr, j, acc, hk, rfl, rfl, rfl, hfk, hjk, hacc, hown, ho, HK⟩ := hrel
      by_cases hend : k = s.length + 1
      · subst hend
        have HG := Lib.hid (res_ok (HK.out.2 rfl))
        obtain ⟨A0, n0, cap0, rfl⟩ := hown.form
        have hI : ¬ ((s.length : Int) + 1 ≤ (s.length : Int)) := by omega
        go_wp2
        exact bodyPost_ret (v := .tuple #[.slice A0 n0 cap0, .int .i64 0, .int .i64 0]) (by simp [results, Tryd.results10, go_sem]) rfl ⟨.slice A0 n0 cap0, by rw [HN.out.1, HN.out.2.1, HG.out.2.1, HG.out.2.2]; rfl, by rw [HN.out.2.2, HG.out.1]; exact hown, ho⟩
      · have hkl : k ≤ s.length := by omega
        have hkI : (k : Int) ≤ (s.length : Int) := by omega
        by_cases hmid : ∃ hlt : k < s.length, s[k] ≠ 10
        · obtain ⟨hlt, hb⟩ := hmid
          have HB := Lib.hid (B_at s k hlt)
          have hb2 : ¬ (((B s)[k]'(by simpa [B, ByteArray.size] using hlt)).toNat : Int) = 10 := fun e => hb (HB.out.symm.trans ((byte_n 10 (by decide)).1 e))
          have HO := Lib.hid (HK.out.on hlt hb)
          have hltI : (k : Int) < (s.length : Int) := by omega
          clear hb
          go_wp2
          go_roundw
          case rel => exact ⟨k + 1, fr, j, acc, by omega, by go_num, rfl, rfl, by omega, by omega, by omega, hown, ho, HO⟩
          case measure => simp [intOf]; omega
        · have hten : ∀ hlt : k < s.length, s[k] = 10 := fun hlt => Classical.byContradiction fun e => hmid ⟨hlt, e⟩
          obtain ⟨R, hR, hnext⟩ := HK.out.cut hkl hten
          have hx : (B s).extract fr k = B ((s.drop fr).take (k - fr)) := ext_B s fr k
          have hxl : ((s.drop fr).take (k - fr)).length ≤ 10000 := by simp; omega
          have HNX := Lib.hid hnext
          have HR := Lib.hid hR
          clear hR hnext
          generalize (s.drop fr).take (k - fr) = x at *
          by_cases hlt : k < s.length
          · have HB := Lib.hid (B_at s k hlt)
            have hb2 : (B s)[k]'(by simpa [B, ByteArray.size] using hlt) = 10 := HB.out.trans (hten hlt)
            have hltI : (k : Int) < (s.length : Int) := by omega
            clear hten hmid
            by_cases h0 : x = []
            · subst h0
              have HO := Lib.hid (HNX.out acc (by rw [HR.out, scan_nothing _ _ _ rfl]))
              go_wp2
              go_roundw
              case rel => exact ⟨k + 1, k + 1, j + 1, acc, by omega, by go_num, by go_num, by go_num, Nat.le_refl _, by omega, by omega, hown, ho, HO⟩
              case measure => simp [intOf]; try omega
            · have hx0 : 0 < x.length := List.length_pos_iff.2 h0
              have HXB := Lib.hid (B_at x 0 hx0)
              have HNO := Lib.hid (nothing_head hx0)
              by_cases h35 : x[0] = 35
              · have hb5 : (B x)[0]'(by simpa [B, ByteArray.size] using hx0) = 35 := HXB.out.trans h35
                have HO := Lib.hid (HNX.out acc (by rw [HR.out, scan_nothing _ _ _ (by rw [HNO.out]; simp [h35])]))
                clear h35
                go_wp2
                go_roundw
                case rel => exact ⟨k + 1, k + 1, j + 1, acc, by omega, by go_num, by go_num, by go_num, Nat.le_refl _, by omega, by omega, hown, ho, HO⟩
                case measure => simp [intOf]; try omega
              · have hb5 : ¬ (((B x)[0]'(by simpa [B, ByteArray.size] using hx0)).toNat : Int) = 35 := fun e => h35 (HXB.out.symm.trans ((byte_n 35 (by decide)).1 e))
                have hxe : x.isEmpty = false := by simp [h0]
                have hb6 : ((((B x)[0]'(by simpa [B, ByteArray.size] using hx0)).toNat : Int) != 35) = true := by simpa using hb5
                have HF := Lib.hid (show nothing x = false by rw [HNO.out]; simp [h35])
                clear h35
                have D := rline_any x wr hxl
                go_wp2_with (go_at_call 21; refine D.mono ?_; rintro e W2 ⟨⟨c, rfl, hc⟩, o2⟩; refine Hid.out ?_)
                cases hlo : lineO x with
                | none =>
                  have HG := Lib.hid (res_er (show scan 0 (spl 10 s) = .error (j + 1) by rw [HR.out, scan_none _ _ _ HF.out hlo]; rfl))
                  rw [show (none : Option Cel).isSome = false from rfl]
                  refine Lib.hid ?_
                  go_wp2
                  exact bodyPost_ret (v := .tuple #[.slice none 0 0, .int .i64 ((j + 1 : Nat) : Int), .int .i64 70]) (by simp [results, Tryd.results10, go_sem]) rfl ⟨.slice none 0 0, by rw [HN.out.1, HN.out.2.1, HG.out.2.1, HG.out.2.2]; rfl, by rw [HN.out.2.2, HG.out.1]; exact OwnC.nil _ _, (ho.tr o2).al _⟩
                | some c' =>
                  obtain rfl := hc c' hlo
                  have HO := Lib.hid (HNX.out (acc ++ [c]) (by rw [HR.out, scan_some _ _ _ c HF.out hlo, pre_pre]))
                  rw [show (some c : Option Cel).isSome = true from rfl]
                  have ho2 := ho.tr o2
                  have hown2 := hown.old o2
                  have hal : acc.length + [c].length ≤ 100000 := by simp; omega
                  refine Lib.hid ?_
                  go_wp2_with (at_builtin; refine wp_cels rfl (.tmp 51) (.tmp 53) rfl (W0 := w) ((ho2.al _).al _) _ acc [c] rfl ((hown2.old (old_alloc _ _)).old (old_alloc _ _)) (W2.heap.size + 1) 0 1 1 rfl rfl (cels_one (new_bk1 W2 _ _ _)) hal ?_; intro v8 w8 n8 o8)
                  go_roundw
                  case rel => exact ⟨k + 1, k + 1, j + 1, acc ++ [c], by omega, by go_num, by go_num, by go_num, Nat.le_refl _, by omega, by simp; omega, n8, o8, HO⟩
                  case measure => simp [intOf]; try omega
          · have hltI : ¬ (k : Int) < (s.length : Int) := by omega
            clear hten hmid
            by_cases h0 : x = []
            · subst h0
              have HO := Lib.hid (HNX.out acc (by rw [HR.out, scan_nothing _ _ _ rfl]))
              go_wp2
              go_roundw
              case rel => exact ⟨k + 1, k + 1, j + 1, acc, by omega, by go_num, by go_num, by go_num, Nat.le_refl _, by omega, by omega, hown, ho, HO⟩
              case measure => simp [intOf]; try omega
            · have hx0 : 0 < x.length := List.length_pos_iff.2 h0
              have HXB := Lib.hid (B_at x 0 hx0)
              have HNO := Lib.hid (nothing_head hx0)
              by_cases h35 : x[0] = 35
              · have hb5 : (B x)[0]'(by simpa [B, ByteArray.size] using hx0) = 35 := HXB.out.trans h35
                have HO := Lib.hid (HNX.out acc (by rw [HR.out, scan_nothing _ _ _ (by rw [HNO.out]; simp [h35])]))
                clear h35
                go_wp2
                go_roundw
                case rel => exact ⟨k + 1, k + 1, j + 1, acc, by omega, by go_num, by go_num, by go_num, Nat.le_refl _, by omega, by omega, hown, ho, HO⟩
                case measure => simp [intOf]; try omega
              · have hb5 : ¬ (((B x)[0]'(by simpa [B, ByteArray.size] using hx0)).toNat : Int) = 35 := fun e => h35 (HXB.out.symm.trans ((byte_n 35 (by decide)).1 e))
                have hxe : x.isEmpty = false := by simp [h0]
                have hb6 : ((((B x)[0]'(by simpa [B, ByteArray.size] using hx0)).toNat : Int) != 35) = true := by simpa using hb5
                have HF := Lib.hid (show nothing x = false by rw [HNO.out]; simp [h35])
                clear h35
                have D := rline_any x wr hxl
                go_wp2_with (go_at_call 21; refine D.mono ?_; rintro e W2 ⟨⟨c, rfl, hc⟩, o2⟩; refine Hid.out ?_)
                cases hlo : lineO x with
                | none =>
                  have HG := Lib.hid (res_er (show scan 0 (spl 10 s) = .error (j + 1) by rw [HR.out, scan_none _ _ _ HF.out hlo]; rfl))
                  rw [show (none : Option Cel).isSome = false from rfl]
                  refine Lib.hid ?_
                  go_wp2
                  exact bodyPost_ret (v := .tuple #[.slice none 0 0, .int .i64 ((j + 1 : Nat) : Int), .int .i64 70]) (by simp [results, Tryd.results10, go_sem]) rfl ⟨.slice none 0 0, by rw [HN.out.1, HN.out.2.1, HG.out.2.1, HG.out.2.2]; rfl, by rw [HN.out.2.2, HG.out.1]; exact OwnC.nil _ _, (ho.tr o2).al _⟩
                | some c' =>
                  obtain rfl := hc c' hlo
                  have HO := Lib.hid (HNX.out (acc ++ [c]) (by rw [HR.out, scan_some _ _ _ c HF.out hlo, pre_pre]))
                  rw [show (some c : Option Cel).isSome = true from rfl]
                  have ho2 := ho.tr o2
                  have hown2 := hown.old o2
                  have hal : acc.length + [c].length ≤ 100000 := by simp; omega
                  refine Lib.hid ?_
                  go_wp2_with (at_builtin; refine wp_cels rfl (.tmp 51) (.tmp 53) rfl (W0 := w) ((ho2.al _).al _) _ acc [c] rfl ((hown2.old (old_alloc _ _)).old (old_alloc _ _)) (W2.heap.size + 1) 0 1 1 rfl rfl (cels_one (new_bk1 W2 _ _ _)) hal ?_; intro v8 w8 n8 o8)
                  go_roundw
                  case rel => exact ⟨k + 1, k + 1, j + 1, acc ++ [c], by omega, by go_num, by go_num, by go_num, Nat.le_refl _, by omega, by simp; omega, n8, o8, HO⟩
                  case measure => simp [intOf]; try omega
end Go.Proofs.YtacniohflhpgaaaDoor
