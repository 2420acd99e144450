/-
  Four, Put, Get, All of the document's own answer. Conditions: lengths as written.
-/
import Derived.Test.YtilimfbjkgeciaaDoorCH
namespace Go.Proofs.YtilimfbjkgeciaaDoor
set_option maxRecDepth 100000
open Go.RowKit Go.Shelf

/-- string([]byte{..}). -/
theorem str_new (w : World) (cs : Array Value) (l : List UInt8) (n cap : Nat) (hn : n = l.length) (hcs : cs = (bs l).toArray) :
    (convert 54 9 (.slice (some ⟨w.heap.size, 0, none⟩) n cap)).run Tryd.prog (w.alloc (.cells cs 5)) = .ok (.string (B l)) (w.alloc (.cells cs 5)) := by
  subst hn hcs
  rw [run_convert_bytes_string _ _ _ _ _ _ _ Tryd.underlying54 Tryd.underlying5 Tryd.underlying9]
  rw [run_bytesToString _ ⟨w.heap.size, 0, none⟩ l.length cap (l.map fun b => (b.toNat : Int)) ?_]
  · rw [fold_push]
    show Result.ok (Value.string ⟨#[] ++ l.toArray⟩) _ = _
    rw [Array.empty_append]
  · have h1 := run_loadCells_list (P := Tryd.prog) (w.alloc (.cells (bs l).toArray 5)) ⟨w.heap.size, 0, none⟩ (bs l) (fun j u hu => by
      have h1 := cell_of_row _ w.heap.size j _ _ _ (heap_alloc_new w (.cells (bs l).toArray 5))
      rw [Addr.add_lit, Nat.zero_add, h1]
      simpa using hu)
    rw [bs_length] at h1
    rw [h1]
    simp [bs]

set_option maxHeartbeats 1000000 in
theorem rfour_any (n : Nat) (hn : n < 4294967296) (w : World) :
    Calls Tryd.prog 78 #[.int .u32 n] w fun e w' => e = .returned (.string (B (low4 n))) ∧ Old w w' := by
  have hcv := str_new w #[.int .u8 ((n : Int) % 256), .int .u8 ((n : Int) / 256 % 256), .int .u8 ((n : Int) / 65536 % 256), .int .u8 ((n : Int) / 16777216)] (low4 n) 4 4 rfl (by simp [bs, low4]; omega)
  go_enter Tryd.func78, Tryd.ntmps78
  go_wp2
  go_ret
  exact ⟨rfl, old_alloc _ _⟩

set_option maxHeartbeats 1000000 in
theorem rput_no (l : List UInt8) (h : 65535 < l.length) (hl : l.length ≤ 1000000) (w : World) :
    Calls Tryd.prog 69 #[.string (B l)] w fun e w' => e = .returned (.tuple #[.string (B []), .int .i64 71]) ∧ w = w' := by
  go_enter Tryd.func69, Tryd.ntmps69
  go_wp2
  go_ret2
  exact ⟨rfl, rfl⟩

set_option maxHeartbeats 1000000 in
theorem rput_yes (l : List UInt8) (h : l.length ≤ 65535) (w : World) :
    Calls Tryd.prog 69 #[.string (B l)] w fun e w' => e = .returned (.tuple #[.string (B (c_put l)), .int .i64 0]) ∧ Old w w' := by
  have HP := Lib.hid (show c_put l = low2 l.length ++ low4 (sumL (low2 l.length ++ l)) ++ l from rfl)
  have ha : (low2 l.length).length = 2 := rfl
  have hcv := str_new w #[.int .u8 ((l.length : Int) % 256), .int .u8 ((l.length : Int) / 256)] (low2 l.length) 2 2 rfl (by simp [bs, low2]; omega)
  generalize low2 l.length = a at *
  have o1 := old_alloc w (.cells #[.int .u8 ((l.length : Int) % 256), .int .u8 ((l.length : Int) / 256)] 5)
  go_enter Tryd.func69, Tryd.ntmps69
  go_wp2_with fail
  rw [add_B]
  refine (rsum_any (a ++ l) (by simp; omega) _).mono ?_
  rintro e w2 ⟨rfl, rfl⟩
  have hs : sumL (a ++ l) < 4294967296 := more_lt _ _
  generalize sumL (a ++ l) = n at *
  go_wp2_with fail
  refine (rfour_any _ hs _).mono ?_
  rintro e w2 ⟨rfl, h2⟩
  have hb : (low4 n).length = 4 := rfl
  generalize low4 n = b at *
  go_wp2
  go_ret2
  refine ⟨?_, o1.tr h2⟩
  show Ending.returned (.tuple #[.string (B a ++ B b ++ B l), .int .i64 0]) = _
  rw [HP.out, add_B, add_B]

theorem low4_lowV (l : List UInt8) (h : l.length = 4) : low4 (lowV l) = l := by
  have h1 := lowV_lt l
  rw [h] at h1
  exact lowV_inj (by simpa [low4] using h.symm) (lowV_low4 _ h1)
theorem low4_eq_iff (n : Nat) (hn : n < 4294967296) (l : List UInt8) (h : l.length = 4) : (low4 n == l) = decide (n = lowV l) := by
  rw [Bool.eq_iff_iff]
  simp only [beq_iff_eq, decide_eq_true_eq]
  constructor
  · intro e; rw [← e, lowV_low4 n hn]
  · intro e; rw [e, low4_lowV l h]

theorem lowV_two (l : List UInt8) (h : 2 ≤ l.length) : lowV (l.take 2) = l[0].toNat + 256 * l[1].toNat := by
  match l, h with
  | a :: b :: r, _ => simp [lowV]

theorem first_two (l : List UInt8) (h : 1 < l.length) : wrap64 (wrap64 (((B l)[0]'(by simp [ByteArray.size]; omega)).toNat : Int) + wrap64 ((256 : Int) * wrap64 (((B l)[1]'(by simpa [ByteArray.size] using h)).toNat : Int))) = ((lowV (l.take 2) : Nat) : Int) := by
  rw [lowV_two l (by omega), show (B l)[0]'(by simp [ByteArray.size]; omega) = l[0] from rfl, show (B l)[1]'(by simpa [ByteArray.size] using h) = l[1] from rfl]
  have := l[0].toNat_lt
  have := l[1].toNat_lt
  unfold wrap64
  omega

set_option maxHeartbeats 2000000 in
theorem rget_any (l : List UInt8) (hl : l.length ≤ 1000000) (w : World) :
    Calls Tryd.prog 62 #[.string (B l)] w fun e w' => e = .returned (getR l) ∧ Old w w' := by
  by_cases h0 : l = []
  · subst h0
    go_enter Tryd.func62, Tryd.ntmps62
    go_wp2
    go_ret3
    exact ⟨rfl, Old.re _⟩
  have he : l.isEmpty = false := by simpa using h0
  have hpos : 0 < l.length := List.length_pos_iff.2 h0
  by_cases h6 : l.length < 6
  · have HV := Lib.hid (show getV l = ([], 0, 10) by rw [getV, if_neg h0, if_pos h6])
    go_enter Tryd.func62, Tryd.ntmps62
    go_wp2
    go_ret3
    refine ⟨?_, Old.re _⟩
    rw [getR, HV.out]
    rfl
  have hb1 : (1 : Int) < (l.length : Int) := by omega
  have hb2 : 1 < l.length := by omega
  have hn0 := first_two l hb2
  have l2 : (l.take 2).length = 2 := by simp; omega
  have hn : lowV (l.take 2) < 65536 := by have := lowV_lt (l.take 2); rw [l2] at this; omega
  have HV := Lib.hid (show getV l = if l.length - 6 < lowV (l.take 2) then ([], 0, 10)
    else if sumL (l.take 2 ++ (l.drop 6).take (lowV (l.take 2))) = lowV ((l.drop 2).take 4) then ((l.drop 6).take (lowV (l.take 2)), 6 + lowV (l.take 2), 0)
    else ([], 0, 20) by rw [getV, if_neg h0, if_neg h6])
  generalize lowV (l.take 2) = n at *
  have x2 : (B l).extract 0 2 = B (l.take 2) := ext_take _ _
  have x4 : (B l).extract 2 6 = B ((l.drop 2).take 4) := ext_B _ _ _
  have x6 : (B l).extract 6 (6 + n) = B ((l.drop 6).take n) := by rw [ext_B]; congr 2; omega
  have l4 : ((l.drop 2).take 4).length = 4 := by simp; omega
  by_cases hlt : l.length - 6 < n
  · rw [if_pos hlt] at HV
    go_enter Tryd.func62, Tryd.ntmps62
    go_wp2_with fail
    go_quiet (fail)
    rw [hn0]
    go_wp2
    go_ret3
    refine ⟨?_, (Old.re _).dn _⟩
    rw [getR, HV.out]
    rfl
  have l6 : ((l.drop 6).take n).length = n := by simp; omega
  rw [if_neg hlt] at HV
  have hxx : B (l.take 2) ++ B ((l.drop 6).take n) = B (l.take 2 ++ (l.drop 6).take n) := add_B _ _
  have C1 := Lib.hid (fun W => rsum_any (l.take 2 ++ (l.drop 6).take n) (by simp; omega) W)
  have hs : sumL (l.take 2 ++ (l.drop 6).take n) < 4294967296 := more_lt _ _
  generalize sumL (l.take 2 ++ (l.drop 6).take n) = sm at *
  have C2 := Lib.hid (fun W => rfour_any sm hs W)
  have HL := Lib.hid (low4_eq_iff sm hs _ l4)
  have hb : (low4 sm).length = 4 := rfl
  generalize low4 sm = b4 at *
  generalize l.take 2 = a at *
  generalize (l.drop 2).take 4 = d at *
  generalize (l.drop 6).take n = c at *
  go_enter Tryd.func62, Tryd.ntmps62
  go_wp2_with fail
  go_quiet (fail)
  rw [hn0]
  clear hn0
  go_wp2_with fail
  have i2 : (2 : Int) ≤ (l.length : Int) := by omega
  have i6 : (6 : Int) ≤ (l.length : Int) := by omega
  have i0 : (0 : Int) ≤ 6 + (n : Int) := by omega
  have i1 : (6 : Int) ≤ 6 + (n : Int) := by omega
  have i3 : (6 : Int) + (n : Int) ≤ (l.length : Int) := by omega
  have i4 : ((6 : Int) + (n : Int)).toNat = 6 + n := by omega
  have i5 : IntKind.i64.wrap ((6 : Int) + (n : Int)) = 6 + (n : Int) := by rw [IntKind.wrap_i64]; omega
  have i7 : ¬ 9223372036854775807 < 2 + n := by omega
  have i8 : (9223372036854775807 < 2 + n) = False := by simpa using i7
  have oS : Old w (w.drewN nq) := (Old.re _).dn _
  go_region_held3 (fun W => Old w W) (first | exact Old.tr (by assumption) (by assumption) | exact Old.dr (by assumption) | assumption | exact oS | exact oS.dr)
    (first
      | (go_at_call 79; with_reducible refine (C1.out _).mono ?_; rintro r w5 ⟨rfl, rfl⟩)
      | (go_at_call 78; with_reducible refine (C2.out _).mono ?_; rintro r w6 ⟨rfl, h6b⟩))
  have f6 : Old w w6 := by assumption
  clear i0 i1 i2 i3 i4 i5 i6 i7 i8 h6b oS hxx x2 x4 C1 C2
  by_cases hst : sm = lowV d
  · rw [if_pos hst] at HV
    have hbe : (b4 == d) = true := by rw [HL.out]; simpa using hst
    clear HL hst
    rw [hbe, Bool.not_true]
    go_wp2
    go_ret3
    refine ⟨?_, f6⟩
    rw [getR, HV.out]
    show Ending.returned (.tuple #[.string ((B l).extract 6 (6 + n)), .int .i64 (6 + (n : Int)), .int .i64 0]) = Ending.returned (.tuple #[.string (B c), .int .i64 ((6 + n : Nat) : Int), .int .i64 ((0 : Nat) : Int)])
    rw [Int.natCast_add, x6]
    rfl
  · rw [if_neg hst] at HV
    have hbe : (b4 == d) = false := by rw [HL.out]; simpa using hst
    clear HL hst
    rw [hbe, Bool.not_false]
    go_wp2
    go_ret3
    refine ⟨?_, f6⟩
    rw [getR, HV.out]
    rfl

theorem ownsRow_old {w W : World} {base : Nat} {e : TypeId} {v : Value} {n : Nat} {xs : List Value} (h : w.ownsRow base e 1 v n xs) (hb : Old w W) : W.ownsRow base e 1 v n xs := by
  refine World.ownsRow.kept (row := none) h ⟨hb.os, hb.tape, hb.output, hb.size, fun i hi _ => hb.block i hi⟩ ?_
  cases hv : v.ownBlock
  · exact .inl rfl
  · exact .inr (by simp)

/-- The texts of an input from a place on. -/
theorem drop_drop' (l : List UInt8) (a b : Nat) : (l.drop a).drop b = l.drop (a + b) := by rw [List.drop_drop]

set_option maxRecDepth 10000 in
set_option maxHeartbeats 2000000 in
theorem rall_any (s : List UInt8) (hs : s.length ≤ 1000000) (w : World) :
    Calls Tryd.prog 33 #[.string (B s)] w fun e w' => ∃ A cap, e = .returned (.tuple #[.slice A (allV s).length cap, .int .i64 (took (allV s) : Nat)]) ∧ Strs w' A cap (allV s) ∧ Old w w' := by
  obtain ⟨i0, hi, hz0, hz1, hz2⟩ := info_parts Tryd.infoStr
  go_enter Tryd.func33, Tryd.ntmps33
  go_wp2_with fail
  go_loopw [4, 5] (fun v i wr => ∃ pre : List (List UInt8), i = .int .i64 (took pre : Nat) ∧ took pre ≤ s.length ∧ wr.ownsRow w.heap.size 9 1 v pre.length (ts pre) ∧ Hid (allV s = pre ++ allV (s.drop (took pre))) ∧ pre.length ≤ took pre ∧ Old w wr) (fun _ i _ => s.length - (intOf i).toNat)
  case atStart => exact ⟨[], rfl, Nat.zero_le _, World.ownsRow_made w _ 0 (Nat.le_refl _) (Nat.zero_le _) rfl, Lib.hid rfl, Nat.zero_le _, old_alloc _ _⟩
  case round =>
    obtain ⟨pre, rfl, hle, hrow, HA, hpl, hw⟩ := hrel
    have xd : (B s).extract (took pre) s.length = B (s.drop (took pre)) := ext_drop _ _ _ (Nat.le_refl _)
    have ld : (s.drop (took pre)).length = s.length - took pre := by simp
    have HT := Lib.hid (fun t => took_snoc pre t)
    by_cases hg : (getV (s.drop (took pre))).2.2 = 0
    · have hv := getV_ok hg
      have HR := Lib.hid (getR_yes hg)
      have HN := Lib.hid (allV_yes hg)
      have HD := Lib.hid (fun b => drop_drop' s (took pre) b)
      generalize (getV (s.drop (took pre))).1 = t at *
      generalize htp : took pre = p at *
      generalize s.drop p = r at *
      go_wp2_with fail
      refine (rget_any r (by omega) _).mono ?_
      rintro e w1 ⟨rfl, h1⟩
      rw [HR.out]
      have hrow1 : w1.ownsRow w.heap.size 9 1 _ pre.length (ts pre) := ownsRow_old hrow h1
      have hw1 := hw.tr h1
      clear hrow hw
      go_wp2_with (at_builtin; refine wpList_append_own _ rfl (.tmp 22) (.tmp 24) 31 rfl w.heap.size 9 i0 (.string ByteArray.empty) 1 16 Tryd.underlying31 hi hz0 hz1 hz2 rfl (by decide) _ _ _ rfl (hrow1.alloc _) ⟨w1.heap.size, 0, none⟩ 1 1 [.string (B t)] rfl rfl (cell_one_new _ _ _) (by simp [Value.oneCell']) (by unfold maxLen; omega) (by omega) (by have := hw1.size; simp; omega) ?_; intro v' w2 hown' hgrow _)
      go_roundw
      case rel =>
        have e1 := HT.out t
        refine ⟨pre ++ [t], ?_, by omega, ?_, Lib.hid ?_, by rw [e1, List.length_append]; simp; omega, ?_⟩
        · rw [e1]; congr 1
        · simpa [ts] using hown'
        · rw [HA.out, HN.out, e1, HD.out]; simp
        · exact (hw1.al _).grown hgrow (by have := hw1.size; simp; omega) (fun k hk => (World.ownsRow.lt hrow1 k hk).1)
      case measure => simp only [intOf]; omega
    · have hg2 : (((getV (s.drop (took pre))).2.2 : Nat) : Int) ≠ 0 := by omega
      have HR := Lib.hid (show getR (s.drop (took pre)) = .tuple #[.string (B (getV (s.drop (took pre))).1), .int .i64 ((getV (s.drop (took pre))).2.1 : Nat), .int .i64 ((getV (s.drop (took pre))).2.2 : Nat)] from rfl)
      have HN := Lib.hid (allV_no hg)
      have HE := Lib.hid (show allV s = pre by rw [HA.out, HN.out, List.append_nil])
      generalize (((getV (s.drop (took pre))).2.2 : Nat) : Int) = e1 at *
      have hg3 : (e1 != 0) = true := by simpa using hg2
      generalize getV (s.drop (took pre)) = gv at *
      generalize s.drop (took pre) = r at *
      go_wp2_with fail
      refine (rget_any r (by omega) _).mono ?_
      rintro e w1 ⟨rfl, h1⟩
      rw [HR.out]
      have hrow1 : w1.ownsRow w.heap.size 9 1 _ pre.length (ts pre) := ownsRow_old hrow h1
      go_wp2
      go_ret2
      rw [HE.out]
      obtain ⟨A, cap, rfl, hA⟩ := strs_of_own hrow1 (fun t ht => by rw [← HE.out] at ht; have := allV_small s t ht; omega)
      exact ⟨A, cap, rfl, hA, hw.tr h1⟩
end Go.Proofs.YtilimfbjkgeciaaDoor
