/-
  VdiskRenames: whatever comes in, the law answers true, and leaves all as it was. No conditions.
-/
import Derived.Test.YtlhfcfalkmencaaVLift
namespace Go.Proofs.Ytlhfcfalkmencaa
open Go.ChangeShapes Go.WideShapes Go.ChangeAt Go.RowKit Go.Joins Go.Deep Go.Maps

abbrev nN : List UInt8 := [110, 101, 119]
abbrev nO : List UInt8 := [111, 108, 100]
abbrev two (b1 : Nat) (s1 : List UInt8) (n1 : Nat) (b2 : Nat) (s2 : List UInt8) (n2 : Nat) : List Fl := [⟨nN, b1, s1, n1⟩, ⟨nO, b2, s2, n2⟩]
section
variable {b1 b2 : Nat} {s1 s2 : List UInt8} {n1 n2 : Nat}
theorem fnd_N : fnd (two b1 s1 n1 b2 s2 n2) nN = some ⟨nN, b1, s1, n1⟩ := by simp [fnd]
theorem fnd_O : fnd (two b1 s1 n1 b2 s2 n2) nO = some ⟨nO, b2, s2, n2⟩ := by simp [fnd]
theorem put_two : put ⟨nO, b2, [], 0⟩ (one nN b1 s1 n1) = two b1 s1 n1 b2 [] 0 := by simp [put, del]
theorem set_N (h : b1 ≠ b2) (t : List UInt8) (i : Nat) : setF b1 t i (two b1 s1 n1 b2 s2 n2) = two b1 t i b2 s2 n2 := by simp [setF, upd, Ne.symm h]
theorem set_O (h : b1 ≠ b2) (t : List UInt8) (i : Nat) : setF b2 t i (two b1 s1 n1 b2 s2 n2) = two b1 s1 n1 b2 t i := by simp [setF, upd, h]
theorem total_two : total (two b1 s1 n1 b2 s2 n2) = s1.length + s2.length := by simp [total]
theorem ren_two : put (toN ⟨nN, b1, s1, n1⟩ nO) (del nN (two b1 s1 n1 b2 s2 n2)) = one nO b1 s1 n1 := by simp [put, del, toN]
end
theorem crF_all (keep : Int) (f : Fl) (h : f.n = f.s.length) : crF keep f = f := by
  have h1 : stay keep f = f.s.length := by
    unfold stay
    rw [h]
    split
    · rw [Nat.sub_self, Nat.zero_add, Nat.mod_one, Nat.add_zero]
    · rfl
  unfold crF
  rw [h1, List.take_length, ← h]
theorem crF_pair (keep : Int) (b1 b2 : Nat) (a b : List UInt8) : (two b1 a a.length b2 b b.length).map (crF keep) = two b1 a a.length b2 b b.length := by
  simp [crF_all]
theorem crF_once (keep : Int) (b : Nat) (s a : List UInt8) : (one s b a a.length).map (crF keep) = one s b a a.length := by
  simp [crF_all]
section
variable {w w1 : World} {d m c : Nat} {L : List Fl}
theorem fuse_sd {u : Bool} {z : Option Fz} (h : Sd w w1 ⟨d, m, c, L, u, z⟩) (keep : Int) :
    Calls Try.prog 17 #[ptr d, .int .i64 1, .int .i64 keep] w1 fun e w' => e = .returned (.tuple #[]) ∧ ∃ b, Sd w w' ⟨d, m, c, L, u, some ⟨1, keep, b + 1, b + 2, b⟩⟩ :=
  (fuse_one ⟨d, m, c, L, u, z⟩ keep w1 h.dk).mono fun _ _ ⟨e1, b, h1, h2⟩ => ⟨e1, b, h.step h1 h2⟩
theorem rename_sd (h : Sd w w1 ⟨d, m, c, L, true, none⟩) (s t : List UInt8) (hb : bad s = false) (hbt : bad t = false) {f : Fl} (hf : fnd L s = some f) :
    Calls Try.prog 18 #[ptr d, .string (B s), .string (B t)] w1 fun e w' => e = .returned (.int .i64 0) ∧ Sd w w' ⟨d, m, c, put (toN f t) (del f.name L), true, none⟩ :=
  (rename_ok ⟨d, m, c, L, true, none⟩ s t w1 h.dk rfl rfl hb hbt f hf).mono fun _ _ ⟨e1, h1, h2⟩ => ⟨e1, h.step h1 h2⟩
theorem renameC_sd {z : Fz} (h : Sd w w1 ⟨d, m, c, L, true, some z⟩) (h1 : z.n = 1) (ho : z.keep.tmod 2 ≠ 0) (s t : List UInt8) (hb : bad s = false) (hbt : bad t = false) {f : Fl} (hf : fnd L s = some f) :
    Calls Try.prog 18 #[ptr d, .string (B s), .string (B t)] w1 fun e w' => e = .returned (.int .i64 6) ∧ Sd w w' ⟨d, m, c, (put (toN f t) (del f.name L)).map (crF z.keep), false, some z⟩ :=
  (rename_cut ⟨d, m, c, L, true, some z⟩ s t w1 h.dk z rfl h1 ho rfl hb hbt f hf).mono fun _ _ ⟨e1, h1, h2⟩ => ⟨e1, h.step h1 h2⟩
theorem renameN_sd {z : Fz} (h : Sd w w1 ⟨d, m, c, L, true, some z⟩) (h1 : z.n = 1) (ho : z.keep.tmod 2 = 0) (s t : List UInt8) (hb : bad s = false) (hbt : bad t = false) {f : Fl} (hf : fnd L s = some f) :
    Calls Try.prog 18 #[ptr d, .string (B s), .string (B t)] w1 fun e w' => e = .returned (.int .i64 6) ∧ Sd w w' ⟨d, m, c, L.map (crF z.keep), false, some z⟩ :=
  (rename_not ⟨d, m, c, L, true, some z⟩ s t w1 h.dk z rfl h1 ho rfl hb hbt f hf).mono fun _ _ ⟨e1, h1, h2⟩ => ⟨e1, h.step h1 h2⟩
theorem readN_sd {z : Option Fz} (h : Sd w w1 ⟨d, m, c, L, true, z⟩) (s : List UInt8) (hb : bad s = false) (hf : fnd L s = none) :
    Calls Try.prog 15 #[ptr d, .string (B s)] w1 fun e w' => e = .returned (.tuple #[.string (B []), .int .i64 3]) ∧ Sd w w' ⟨d, m, c, L, true, z⟩ ∧ Old w1 w' := by
  have hE : fndE ⟨d, m, c, L, true, z⟩ s = 3 := by simp [fndE, rdyE, hb, hf]
  have := read_no ⟨d, m, c, L, true, z⟩ s (by have := bad_no hb; omega) w1 h.dk (by rw [hE]; decide)
  rw [hE] at this
  exact this.mono fun _ _ ⟨e1, h1⟩ => ⟨e1, h.go h1, h1⟩
end

set_option maxRecDepth 10000 in
set_option maxHeartbeats 4000000 in
theorem law_renames (a b : List UInt8) (keep : Int) (cut : Bool) (w : World) :
    Calls Try.prog 4 #[.string (B a), .string (B b), .int .i64 keep, .bool cut] w fun e w' => e = .returned (.bool true) ∧ Old w w' := by
  by_cases g1 : a.length ≤ 200
  case neg =>
    have d1 : decide ((200 : Int) < (a.length : Int)) = true := by simp; omega
    go_enter Try.func4, Try.ntmps4
    go_wp2_with (go_at_call 8; refine (shown_any _).mono ?_; rintro e w1 ⟨rfl, k1⟩)
    go_ret
    exact ⟨rfl, k1⟩
  have d1 : decide ((200 : Int) < (a.length : Int)) = false := by simp; omega
  by_cases g2 : b.length ≤ 200
  case neg =>
    have d2 : decide ((200 : Int) < (b.length : Int)) = true := by simp; omega
    go_enter Try.func4, Try.ntmps4
    go_wp2_with (go_at_call 8; refine (shown_any _).mono ?_; rintro e w1 ⟨rfl, k1⟩)
    go_ret
    exact ⟨rfl, k1⟩
  have d2 : decide ((200 : Int) < (b.length : Int)) = false := by simp; omega
  go_enter Try.func4, Try.ntmps4
  go_wp2_with fail
  refine (shown_any _).mono ?_
  rintro e w1 ⟨rfl, k1⟩
  go_wp2_with fail
  refine (new_sd 1000 (by omega) w w1 k1).mono ?_
  rintro e w2 ⟨d, m, rfl, s2⟩
  clear k1 d1 d2
  go_wp2_with fail
  refine (create_sd s2 nN (by decide) rfl (by simp)).mono ?_
  rintro e w3 ⟨rfl, b1, s3, -⟩
  rw [put_nil] at s3
  clear s2
  go_wp2_with fail
  refine (create_sd s3 nO (by decide) (by simp [fnd]) (by simp)).mono ?_
  rintro e w4 ⟨rfl, b2, s4, -⟩
  rw [put_two] at s4
  clear s3
  have hne : b1 ≠ b2 := by
    have := s4.dk.ok.blks
    simpa using this
  have HN := Lib.hid hne
  clear hne
  go_wp2_with fail
  refine (append_sd s4 nN a (by decide) fnd_N (by rw [total_two]; simp; omega)).mono ?_
  rintro e w5 ⟨rfl, s5⟩
  rw [set_N HN.out] at s5
  clear s4
  go_wp2_with fail
  refine (append_sd s5 nO b (by decide) fnd_O (by rw [total_two]; simp; omega)).mono ?_
  rintro e w6 ⟨rfl, s6⟩
  rw [set_O HN.out] at s6
  clear s5
  go_wp2_with fail
  refine (sync_sd s6 nN (by decide) fnd_N).mono ?_
  rintro e w7 ⟨rfl, s7⟩
  rw [set_N HN.out] at s7
  clear s6
  go_wp2_with fail
  refine (sync_sd s7 nO (by decide) fnd_O).mono ?_
  rintro e w8 ⟨rfl, s8⟩
  rw [set_O HN.out] at s8
  simp only [List.nil_append] at s8
  clear s7
  cases cut with
  | false =>
    go_wp2_with fail
    refine (rename_sd s8 nN nO (by decide) (by decide) fnd_N).mono ?_
    rintro e w9 ⟨rfl, s9⟩
    rw [ren_two] at s9
    clear s8
    go_wp2_with fail
    refine (on_sd s9).mono ?_
    rintro e w10 ⟨rfl, s10⟩
    clear s9
    go_wp2_with fail
    refine (read_sd s10 nO (by decide) (fnd_one _ _ _ _)).mono ?_
    rintro e w11 ⟨rfl, s11, -⟩
    clear s10
    go_wp2_with fail
    refine (readN_sd s11 nN (by decide) (by simp [fnd])).mono ?_
    rintro e w12 ⟨rfl, s12, -⟩
    clear s11
    have HT := Lib.hid (size_sd s12)
    rw [total_one] at HT
    clear s12
    go_wp2_with fail
    refine HT.out.mono ?_
    rintro e w13 ⟨rfl, s13, -⟩
    go_wp2
    go_ret
    exact ⟨rfl, s13.old⟩
  | true =>
    go_wp2_with fail
    refine (fuse_sd s8 keep).mono ?_
    rintro e w9 ⟨rfl, g, s9⟩
    clear s8
    by_cases hk : keep.tmod 2 = 0
    · go_wp2_with fail
      refine (renameN_sd s9 rfl hk nN nO (by decide) (by decide) fnd_N).mono ?_
      rintro e w10 ⟨rfl, s10⟩
      rw [crF_pair] at s10
      clear s9
      go_wp2_with fail
      refine (on_sd s10).mono ?_
      rintro e w11 ⟨rfl, s11⟩
      clear s10
      go_wp2_with fail
      refine (read_sd s11 nO (by decide) fnd_O).mono ?_
      rintro e w12 ⟨rfl, s12, -⟩
      clear s11
      go_wp2_with fail
      refine (read_sd s12 nN (by decide) fnd_N).mono ?_
      rintro e w13 ⟨rfl, s13, -⟩
      clear s12
      have HT := Lib.hid (size_sd s13)
      rw [total_two, Int.natCast_add] at HT
      clear s13
      go_wp2_with fail
      refine HT.out.mono ?_
      rintro e w14 ⟨rfl, s14, -⟩
      go_wp2
      go_ret
      exact ⟨rfl, s14.old⟩
    · have hkI : (keep.tmod 2 == 0) = false := by simpa using hk
      go_wp2_with fail
      refine (renameC_sd s9 rfl hk nN nO (by decide) (by decide) fnd_N).mono ?_
      rintro e w10 ⟨rfl, s10⟩
      rw [ren_two, crF_once] at s10
      clear s9
      go_wp2_with fail
      refine (on_sd s10).mono ?_
      rintro e w11 ⟨rfl, s11⟩
      clear s10
      go_wp2_with fail
      refine (read_sd s11 nO (by decide) (fnd_one _ _ _ _)).mono ?_
      rintro e w12 ⟨rfl, s12, -⟩
      clear s11
      go_wp2_with fail
      refine (readN_sd s12 nN (by decide) (by simp [fnd])).mono ?_
      rintro e w13 ⟨rfl, s13, -⟩
      clear s12
      have HT := Lib.hid (size_sd s13)
      rw [total_one] at HT
      clear s13
      go_wp2_with fail
      refine HT.out.mono ?_
      rintro e w14 ⟨rfl, s14, -⟩
      go_wp2
      go_ret
      exact ⟨rfl, s14.old⟩

set_option maxRecDepth 100000 in
theorem vdiskRenames_lifted (os : Os) (started : os.Started) (H : Type) (enc : TypeId × Value → H) :
    ReturnsInHanded {} Try.checked os 4 .any (Rows.vdiskRenamesSpec.pre6 enc Try.prog Try.f4 Rows.vdiskRenamesRow.domain false) (Rows.vdiskRenamesSpec.post enc Try.prog Try.f4 false true false false) := by
  refine returnsInHanded_of_change (C := Try.checked) Try.own started (by kernel_rfl) Try.func4
    (ChangeSpec.witness6 (enc := enc) (C := Try.checked) false ⟨#[], #[.string ByteArray.empty, .string ByteArray.empty, .int .i64 0, .bool false], []⟩ 8 (by kernel_rfl) (by kernel_rfl) (by kernel_rfl) (by kernel_rfl)) ?_
  intro W base args ds gs before hval0 hW hcnd _
  have hval : ∀ (j : Nat) t v, Try.f4.params[j]? = some t → args[j]? = some v → Value.okWide Try.prog W .any base t v := hval0
  have hW' := hW
  obtain ⟨p, q, hA0, hV, rfl, hfz, hnd⟩ := hW
  have hA : DataW.TrodAll enc Try.prog W 0 (fun _ => true) true Try.f4.params.toList args.toList ds p := hA0
  rw [Try.params4] at hA hval
  obtain ⟨v0, v1, v2, v3, d0, d1, d2, d3, p0, p1, p2, p3, rfl, rfl, rfl, h0, h1, h2, h3⟩ := trodAll_four' hA
  obtain ⟨rfl, rfl⟩ := trodVars_none hV
  have hlt : ∀ x ∈ p0 ++ (p1 ++ (p2 ++ (p3))), x.block < W.heap.size := fun x hx => hW'.lt x (by simpa using hx)
  have k0 := h0
  have k1 := h1
  have k2 := h2
  have k3 := h3
  obtain ⟨a0, rfl, o0⟩ := open_str (hval 0 9 v0 rfl rfl) h0
  obtain ⟨a1, rfl, o1⟩ := open_str (hval 1 9 v1 rfl rfl) h1
  obtain ⟨a2, rfl⟩ := open_i64 (hval 2 3 v2 rfl rfl) h2
  obtain ⟨a3, rfl⟩ := open_bl (hval 3 4 v3 rfl rfl) h3
  clear hA0 hval0
  refine (law_renames a0 a1 a2 a3 W).mono fun e W' ⟨he, hb⟩ => ?_
  subst he
  refine ⟨_, rfl, _, _, _, [], p0 ++ (p1 ++ (p2 ++ (p3))), [], hW', trodAll_mk1 (shut_bool Try.underlying4 _), ?_, rfl, hb.frame _, fun h => by cases h⟩
  have r0 := Below.trod Try.laidOut (by kernel_rfl) (of_decide_eq_true (by kernel_rfl)) k0 hb (fun x hx => hlt x (by simp [hx]))
  have r1 := Below.trod Try.laidOut (by kernel_rfl) (of_decide_eq_true (by kernel_rfl)) k1 hb (fun x hx => hlt x (by simp [hx]))
  have r2 := Below.trod Try.laidOut (by kernel_rfl) (of_decide_eq_true (by kernel_rfl)) k2 hb (fun x hx => hlt x (by simp [hx]))
  have r3 := Below.trod Try.laidOut (by kernel_rfl) (of_decide_eq_true (by kernel_rfl)) k3 hb (fun x hx => hlt x (by simp [hx]))
  exact trodAll_mk4 r0 r1 r2 r3

theorem vdiskRenames_holds : Rows.VdiskRenamesSaid :=
  OpenClaim.holds_of_wide 4 Try.f4 rfl rfl rfl rfl rfl rfl rfl ⟨rfl, rfl, rfl, rfl, rfl⟩ rfl rfl rfl rfl rfl (by kernel_rfl) Try.func4 (by kernel_rfl)
    (of_decide_eq_true (by kernel_rfl)) (by unfold Func.isWrapper; first | (rw [if_pos (by decide +kernel)]; kernel_rfl) | (rw [if_neg (by decide +kernel)]; exact ⟨rfl, rfl⟩))
    (fun os started H enc _ => vdiskRenames_lifted os started H enc)
#print axioms vdiskRenames_holds
end Go.Proofs.Ytlhfcfalkmencaa
