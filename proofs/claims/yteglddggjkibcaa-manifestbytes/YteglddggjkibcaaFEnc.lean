/-
  Encode of the code. Conditions: lengths as written.
-/
import Derived.Test.YteglddggjkibcaaFWr
namespace Go.Proofs.Yteglddggjkibcaa
open Go.RowKit Go.Shelf

/-- A text with its length ahead. -/
def short (x : List UInt8) : List UInt8 := lowN x.length 1 ++ x
def fileB (x : Itm) : List UInt8 := lowN x.lev.toNat 1 ++ short x.name ++ short x.low ++ short x.high ++ lowN x.many.toNat 2
def encB (e : Ed) : List UInt8 := lowN e.next 8 ++ lowN e.fl 8 ++ lowN e.add.length 1 ++ e.add.flatMap fileB ++ lowN e.del.length 1 ++ e.del.flatMap short
/-- What Encode answers. -/
def encF (e : Ed) : Int × List UInt8 :=
  if (e.add.all mayF && e.del.all (nameB 59)) = false then (1, []) else if 255 < e.add.length ∨ 255 < e.del.length then (71, []) else (0, encB e)
theorem short_len (x : List UInt8) : (short x).length = x.length + 1 := by rw [short, List.length_append, lowN_length]; omega
theorem may_len {x : Itm} (h : mayF x = true) : x.name.length ≤ 59 ∧ x.low.length ≤ 40 ∧ x.high.length ≤ 40 ∧ 0 ≤ x.lev ∧ x.lev < 3 ∧ 1 ≤ x.many ∧ x.many ≤ 2000 := by
  unfold mayF nameB at h
  simp only [Bool.and_eq_true, decide_eq_true_iff] at h
  omega
theorem fileB_len {x : Itm} (h : mayF x = true) : (fileB x).length ≤ 200 := by
  have := may_len h
  unfold fileB
  simp only [List.length_append, lowN_length, short_len]
  omega
set_option maxHeartbeats 2000000 in
theorem wtext_any (g : Nat) (l x : List UInt8) (w : World) (h : Wr w g l) (hl : l.length ≤ 1000000) (hx : x.length ≤ 255) :
    Calls Try.prog 47 #[.pointer (some ⟨g, 0, none⟩), .string (B x)] w fun e w' => (∃ u, e = .returned u) ∧ Wr w' g (l ++ short x) ∧ KeepT 5 g w w' := by
  have hw : IntKind.u64.wrap (x.length : Int) = (x.length : Int) := by rw [IntKind.wrap_u64]; omega
  go_enter Try.func47, Try.ntmps47
  go_wp2_with fail
  refine (wnumber_any g l x.length 1 (by omega) (by omega) w h (by omega)).mono ?_
  rintro e w1 ⟨⟨u, rfl⟩, h1, k1⟩
  obtain ⟨v, c0, f0, hlt, hB, hO⟩ := h1.cs
  have hl1 : (l ++ lowN x.length 1).length ≤ 1000001 := by rw [List.length_append, lowN_length]; omega
  have HE := Lib.hid (show l ++ short x = (l ++ lowN x.length 1) ++ x by rw [short, List.append_assoc])
  generalize l ++ lowN x.length 1 = l1 at *
  go_wp2_with (at_builtin; refine wp_appt rfl (.tmp 13) (.tmp 14) rfl rfl hO x rfl (by omega) (by omega) ?_; intro v1 w2 o1 gr1; obtain ⟨A1, n1, q1, rfl⟩ := o1.form; have B1 := hB.grown gr1 (own_not hO (by omega)); have c1 := B1.cell 0; have f1 := B1.fr 0)
  refine bodyPost_end (results_none rfl _ _ _) rfl ⟨⟨_, rfl⟩, ?_, k1.tr (((KeepT.re _ _ _).grown hO (by omega) gr1).st 0 _)⟩
  rw [HE.out]
  exact ⟨_, B1.set_ 0 _, o1.set_ (by omega) 0 _⟩
set_option maxHeartbeats 4000000 in
theorem wfile_any (g : Nat) (l : List UInt8) (x : Itm) (w : World) (h : Wr w g l) (hl : l.length ≤ 900000) (hm : mayF x = true) :
    Calls Try.prog 46 #[.pointer (some ⟨g, 0, none⟩), iv x] w fun e w' => (∃ u, e = .returned u) ∧ Wr w' g (l ++ fileB x) ∧ KeepT 5 g w w' := by
  obtain ⟨m1, m2, m3, m4, m5, m6, m7⟩ := may_len hm
  clear hm
  obtain ⟨lev, nm, lo, hi, many⟩ := x
  dsimp only at m1 m2 m3 m4 m5 m6 m7
  obtain ⟨lv, hlv⟩ := Int.eq_ofNat_of_zero_le m4
  obtain ⟨mn, hmn⟩ := Int.eq_ofNat_of_zero_le (show 0 ≤ many by omega)
  subst hlv hmn
  have HF := Lib.hid (show fileB ⟨(lv : Int), nm, lo, hi, (mn : Int)⟩ = lowN lv 1 ++ short nm ++ short lo ++ short hi ++ lowN mn 2 from rfl)
  have hw1 : IntKind.u64.wrap (lv : Int) = (lv : Int) := by rw [IntKind.wrap_u64]; omega
  have hw2 : IntKind.u64.wrap (mn : Int) = (mn : Int) := by rw [IntKind.wrap_u64]; omega
  have hg : g < w.heap.size := by obtain ⟨v, hB, hO⟩ := h; exact hB.lt
  have b1 : lv < 3 := by omega
  have b2 : mn ≤ 2000 := by omega
  clear m4 m5 m6 m7
  go_enter Try.func46, Try.ntmps46
  go_wp2_with fail
  have hb := new_bk w 60 #[.int .i64 (lv : Int), .string (B nm), .string (B lo), .string (B hi), .int .i64 (mn : Int)]
  have h := h.al (.cells #[.int .i64 (lv : Int), .string (B nm), .string (B lo), .string (B hi), .int .i64 (mn : Int)] 60)
  have k0 := (KeepT.re 5 g w).al (.cells #[.int .i64 (lv : Int), .string (B nm), .string (B lo), .string (B hi), .int .i64 (mn : Int)] 60)
  generalize w.alloc (.cells #[.int .i64 (lv : Int), .string (B nm), .string (B lo), .string (B hi), .int .i64 (mn : Int)] 60) = w0 at *
  obtain ⟨g1, hg1⟩ : ∃ g1, g1 = w.heap.size := ⟨_, rfl⟩
  have hne : g1 ≠ g := by omega
  rw [← hg1] at hb ⊢
  clear hg hg1
  refine (wnumber_any g l lv 1 (by omega) (by omega) w0 h (by omega)).mono ?_
  rintro e w1 ⟨⟨u, rfl⟩, h1, k1⟩
  have hb := hb.keep k1 hne (.inr rfl)
  have k0 := k0.tr k1
  have l1 : (l ++ lowN lv 1).length ≤ 900001 := by rw [List.length_append, lowN_length]; omega
  have x1 : w1.cell? ⟨g1, 1, none⟩ = some (.string (B nm)) := hb.cell 1
  clear k1 h
  go_wp2_with fail
  refine (wtext_any g _ nm w1 h1 (by omega) (by omega)).mono ?_
  rintro e w2 ⟨⟨u, rfl⟩, h2, k2⟩
  have hb := hb.keep k2 hne (.inr rfl)
  have k0 := k0.tr k2
  have l2 : (l ++ lowN lv 1 ++ short nm).length ≤ 900061 := by rw [List.length_append, short_len]; omega
  have x2 : w2.cell? ⟨g1, 2, none⟩ = some (.string (B lo)) := hb.cell 2
  clear k2 h1 x1
  go_wp2_with fail
  refine (wtext_any g _ lo w2 h2 (by omega) (by omega)).mono ?_
  rintro e w3 ⟨⟨u, rfl⟩, h3, k3⟩
  have hb := hb.keep k3 hne (.inr rfl)
  have k0 := k0.tr k3
  have l3 : (l ++ lowN lv 1 ++ short nm ++ short lo).length ≤ 900102 := by rw [List.length_append, short_len]; omega
  have x3 : w3.cell? ⟨g1, 3, none⟩ = some (.string (B hi)) := hb.cell 3
  clear k3 h2 x2
  go_wp2_with fail
  refine (wtext_any g _ hi w3 h3 (by omega) (by omega)).mono ?_
  rintro e w4 ⟨⟨u, rfl⟩, h4, k4⟩
  have hb := hb.keep k4 hne (.inr rfl)
  have k0 := k0.tr k4
  have l4 : (l ++ lowN lv 1 ++ short nm ++ short lo ++ short hi).length ≤ 900143 := by rw [List.length_append, short_len]; omega
  have x4 : w4.cell? ⟨g1, 4, none⟩ = some (.int .i64 (mn : Int)) := hb.cell 4
  clear k4 h3 x3
  go_wp2_with fail
  refine (wnumber_any g _ mn 2 (by omega) (by omega) w4 h4 (by omega)).mono ?_
  rintro e w5 ⟨⟨u, rfl⟩, h5, k5⟩
  have k0 := k0.tr k5
  clear k5 h4 x4
  go_wp2
  refine bodyPost_end (results_none rfl _ _ _) rfl ⟨⟨_, rfl⟩, ?_, k0⟩
  rw [HF.out]
  simpa using h5
end Go.Proofs.Yteglddggjkibcaa
