/-
  BlockSeeks: whatever list of cells, and whatever number, come in, the law answers true, and leaves all as it was. No conditions.
-/
import Derived.Test.YtdlendmbdikflaaLift
namespace Go.Proofs.Ytdlendmbdikflaa
open Go.ChangeShapes Go.WideShapes Go.ChangeAt Go.RowKit Go.Joins Go.Deep

theorem rising_pair (l : List Cel) : rising l = true → l.Pairwise (fun a b => cmpC a b = -1) := by
  induction l with
  | nil => intro _; exact List.Pairwise.nil
  | cons a t ih =>
    cases t with
    | nil => intro _; simp
    | cons b t =>
      intro h
      rw [rising, Bool.and_eq_true] at h
      have h1 : cmpC a b = -1 := by
        have h2 := of_decide_eq_true h.1
        have := cmpC_vals a b
        omega
      have h2 := ih h.2
      refine List.pairwise_cons.2 ⟨?_, h2⟩
      intro d hd
      rcases List.mem_cons.1 hd with rfl | hd
      · exact h1
      · exact cmpC_lt_trans a b d h1 ((List.pairwise_cons.1 h2).1 d hd)
theorem cmpT_end (s : List UInt8) : ∀ t : List UInt8, cmpT s (t ++ [0]) = -1 ↔ cmpT s t ≤ 0 := by
  induction s with
  | nil =>
    intro t
    cases t with
    | nil => rw [List.nil_append, cmpT_nc, cmpT_nn]; simp
    | cons b t => rw [List.cons_append, cmpT_nc, cmpT_nc]; simp
  | cons a s ih =>
    intro t
    cases t with
    | nil =>
      rw [List.nil_append, cmpT_cc, cmpT_cn]
      have h0 : ((0 : UInt8).toNat) = 0 := rfl
      rw [h0, if_neg (by omega)]
      split
      · simp
      · cases s with
        | nil => rw [cmpT_nn]; simp
        | cons c s => rw [cmpT_cn]; simp
    | cons b t =>
      rw [List.cons_append, cmpT_cc, cmpT_cc]
      split
      · simp
      · split
        · simp
        · exact ih t
theorem seekN_app (xs ys : List Cel) (q : List UInt8) : seekN (xs ++ ys) q = seekN xs q + seekN ys q := by
  unfold seekN; rw [List.filter_append, List.length_append]
theorem seekN_all {l : List Cel} {q : List UInt8} (h : ∀ c ∈ l, Op.bytesLess (key c) q = true) : seekN l q = l.length := by
  unfold seekN; rw [List.filter_eq_self.2 h]
theorem seekN_zero {l : List Cel} {q : List UInt8} (h : ∀ c ∈ l, Op.bytesLess (key c) q = false) : seekN l q = 0 := by
  unfold seekN; rw [List.filter_eq_nil_iff.2 (fun c hc => by simp [h c hc])]; rfl
theorem not_less {a b : Cel} (ha : a.ok) (hb : b.ok) (h : 0 ≤ cmpC a b) : Op.bytesLess (key a) (key b) = false := by
  cases hx : Op.bytesLess (key a) (key b) with
  | false => rfl
  | true => have := (less_key a b ha hb).1 hx; omega
theorem less_end {a b : Cel} (ha : a.ok) (hb : b.ok) : Op.bytesLess (key a) (key b ++ [0]) = true ↔ cmpC a b ≤ 0 := by
  rw [less_cmp, cmpT_end, cmpT_key a b ha hb]
theorem not_less_end {a b : Cel} (ha : a.ok) (hb : b.ok) (h : 0 < cmpC a b) : Op.bytesLess (key a) (key b ++ [0]) = false := by
  cases hx : Op.bytesLess (key a) (key b ++ [0]) with
  | false => rfl
  | true => have := (less_end ha hb).1 hx; omega
theorem seek_at (l : List Cel) (k : Nat) (hk : k < l.length) (hok : ∀ c ∈ l, c.ok) (hr : rising l = true) : seekN l (key l[k]) = k ∧ seekN l (key l[k] ++ [0]) = k + 1 ∧ seekN l [] = 0 := by
  have hp := rising_pair l hr
  have hs : l = l.take k ++ l[k] :: l.drop (k + 1) := by rw [← List.drop_eq_getElem_cons hk, List.take_append_drop]
  have hc := hok _ (List.getElem_mem hk)
  generalize l[k] = c at *
  have hx : ∀ x ∈ l.take k, x.ok := fun x h => hok x (List.mem_of_mem_take h)
  have hy : ∀ x ∈ l.drop (k + 1), x.ok := fun x h => hok x (List.mem_of_mem_drop h)
  have hl : (l.take k).length = k := by simp; omega
  generalize l.take k = xs at *
  generalize l.drop (k + 1) = ys at *
  subst hs
  rw [List.pairwise_append] at hp
  obtain ⟨-, h2, h3⟩ := hp
  have h4 := (List.pairwise_cons.1 h2).1
  have e1 : ∀ q, seekN (xs ++ c :: ys) q = seekN xs q + (seekN [c] q + seekN ys q) := fun q => by
    rw [seekN_app, show c :: ys = [c] ++ ys from rfl, seekN_app]
  have hcc := cmpC_refl c
  refine ⟨?_, ?_, ?_⟩
  · rw [e1, seekN_all (fun x h => (less_key x c (hx x h) hc).2 (by have := h3 x h c (by simp); omega)), seekN_zero (l := [c]) (fun x h => by rw [List.mem_singleton.1 h]; exact not_less hc hc (by omega)), seekN_zero (fun y h => not_less (hy y h) hc (by have := h4 y h; have := cmpC_neg c y; omega))]
    omega
  · rw [e1, seekN_all (fun x h => (less_end (hx x h) hc).2 (by have := h3 x h c (by simp); omega)), seekN_all (l := [c]) (fun x h => by rw [List.mem_singleton.1 h]; exact (less_end hc hc).2 (by omega)), seekN_zero (fun y h => not_less_end (hy y h) hc (by have := h4 y h; have := cmpC_neg c y; omega))]
    simp; omega
  · exact seekN_zero (fun x _ => by cases key x <;> rfl)

set_option maxRecDepth 100000 in
set_option maxHeartbeats 4000000 in
theorem law_seeks (v : Value) (l : List Cel) (n : Nat) (w : World) (h : Cels w v l) (hok : ∀ c ∈ l, c.ok) (hml : l.length ≤ maxLen) (hn : n < 256) :
    Calls Try.prog 6 #[v, .int .u8 n] w fun e w' => e = .returned (.bool true) ∧ Old w w' := by
  go_enter Try.func6, Try.ntmps6
  go_wp2_with fail
  refine (bounded_at v l _ h hml).mono ?_
  rintro e w1 ⟨rfl, rfl⟩
  cases hb : bdL l with
  | false =>
    go_wp2_with (go_at_call 10; refine (shown_any _).mono ?_; rintro e w1 ⟨rfl, k1⟩)
    go_ret
    exact ⟨rfl, k1⟩
  | true =>
    have hl := bdL_len hb
    go_wp2_with fail
    refine (shown_any _).mono ?_
    rintro e w1 ⟨rfl, k1⟩
    go_wp2_with fail
    refine (build_at v l _ (h.old k1) hok (by omega)).mono ?_
    rintro e w2 ⟨rfl, k2⟩
    have o2 := k1.tr k2
    have h2 := h.old o2
    clear k1 k2 h hb
    by_cases he : errB l = 0
    case neg =>
      rw [buildV_no rfl he]
      have hne : (errB l != 0) = true := by simpa using he
      go_wp2
      go_ret
      exact ⟨rfl, o2⟩
    rw [buildV_yes he]
    rcases h2 with ⟨rfl, A, cap, rfl⟩ | ⟨b, off, cap, rfl, hC⟩
    · rw [show blk [] = [0] from rfl]
      go_wp2
      go_ret
      exact ⟨rfl, o2⟩
    by_cases hz : l.length = 0
    · have hnil : l = [] := List.eq_nil_of_length_eq_zero hz
      subst hnil
      rw [show blk [] = [0] from rfl]
      go_wp2
      go_ret
      exact ⟨rfl, o2⟩
    have hkl : n % l.length < l.length := Nat.mod_lt _ (by omega)
    obtain ⟨e255, hmay, hris⟩ := errB_zero.1 he
    obtain ⟨s1, s2, s3⟩ := seek_at l (n % l.length) hkl hok hris
    have hx := hC.at_ (n % l.length) hkl
    have hm := hmay _ (List.getElem_mem hkl)
    have ho := hok _ (List.getElem_mem hkl)
    have hkn := key_len l[n % l.length] hm
    have hbl := (blk_len l he).1
    have hpo := parseO_blk l he hok
    have V1 := Lib.hid (show seekV (blk l) (key l[n % l.length]) = .tuple #[.int .i64 ((n % l.length : Nat) : Int), .int .i64 0] by unfold seekV; rw [hpo]; simp only; rw [s1])
    have V2 := Lib.hid (show seekV (blk l) (key l[n % l.length] ++ [0]) = .tuple #[.int .i64 ((n % l.length : Nat) + 1 : Int), .int .i64 0] by unfold seekV; rw [hpo]; simp only; rw [s2]; rfl)
    have V3 := Lib.hid (show seekV (blk l) [] = .tuple #[.int .i64 0, .int .i64 0] by unfold seekV; rw [hpo]; simp only; rw [s3]; rfl)
    have hrem : ((n : Int).tmod (l.length : Int)) = ((n % l.length : Nat) : Int) := by rw [Int.tmod_eq_emod_of_nonneg (by omega)]; rfl
    have hl0 : ((l.length : Int) == 0) = false := by rw [beq_eq_false_iff_ne]; omega
    clear s1 s2 s3 hpo hmay hris he
    generalize blk l = s at *
    generalize l[n % l.length] = c at *
    generalize hkk : n % l.length = k at *
    clear hkk
    obtain ⟨a0, a1, a2, a3, a4, a5⟩ := hx.held
    go_wp2_with fail
    refine (key_yes c _ hm ho).mono ?_
    rintro e w3 ⟨rfl, k3⟩
    have o3 := o2.tr k3
    have hx3 := hx.old k3
    clear k3 o2 hx a0 a1 a2 a3 a4 a5
    go_wp2_with fail
    refine (seek_any s (key c) (by omega) _).mono ?_
    rintro e w4 ⟨rfl, k4⟩
    rw [V1.out]
    have o4 := o3.tr k4
    have hx4 := hx3.old k4
    clear k4 o3 hx3
    obtain ⟨a0, a1, a2, a3, a4, a5⟩ := hx4.held
    go_wp2_with fail
    refine (key_yes c _ hm ho).mono ?_
    rintro e w5 ⟨rfl, k5⟩
    have o5 := o4.tr k5
    clear k5 o4 hx4 a0 a1 a2 a3 a4 a5
    go_wp2_with fail
    rw [show B (key c) ++ ⟨#[0]⟩ = B (key c ++ [0]) from add_B (key c) [0]]
    refine (seek_any s (key c ++ [0]) (by omega) _).mono ?_
    rintro e w6 ⟨rfl, k6⟩
    rw [V2.out]
    have o6 := o5.tr k6
    clear k6 o5
    go_wp2_with fail
    rw [show (⟨#[]⟩ : ByteArray) = B [] from rfl]
    refine (seek_any s [] (by omega) _).mono ?_
    rintro e w7 ⟨rfl, k7⟩
    rw [V3.out]
    have o7 := o6.tr k7
    go_wp2
    go_ret
    exact ⟨rfl, o7⟩

set_option maxRecDepth 100000 in
theorem blockSeeks_lifted (os : Os) (started : os.Started) (H : Type) (enc : TypeId × Value → H) :
    ReturnsInHanded {} Try.checked os 6 .any (Rows.blockSeeksSpec.pre6 enc Try.prog Try.f6 Rows.blockSeeksRow.domain false) (Rows.blockSeeksSpec.post enc Try.prog Try.f6 false true false false) := by
  refine returnsInHanded_of_change (C := Try.checked) Try.own started (by kernel_rfl) Try.func6
    (ChangeSpec.witness6 (enc := enc) (C := Try.checked) false ⟨#[], #[.slice none 0 0, .int .u8 0], []⟩ 8 (by kernel_rfl) (by kernel_rfl) (by kernel_rfl) (by kernel_rfl)) ?_
  intro W base args ds gs before hval0 hW hcnd _
  have hval : ∀ (j : Nat) t v, Try.f6.params[j]? = some t → args[j]? = some v → Value.okWide Try.prog W .any base t v := hval0
  have hW' := hW
  obtain ⟨p, q, hA0, hV, rfl, hfz, hnd⟩ := hW
  have hA : DataW.TrodAll enc Try.prog W 0 (fun _ => true) true Try.f6.params.toList args.toList ds p := hA0
  rw [Try.params6] at hA hval
  obtain ⟨v0, v1, d0, d1, p0, p1, rfl, rfl, rfl, h0, h1⟩ := trodAll_two hA
  obtain ⟨rfl, rfl⟩ := trodVars_none hV
  have hlt : ∀ x ∈ p0 ++ (p1), x.block < W.heap.size := fun x hx => hW'.lt x (by simpa using hx)
  have k0 := h0
  have k1 := h1
  obtain ⟨a0, o0, q0, m0, x0⟩ := open_cels (hval 0 22 v0 rfl rfl) h0 (fun x hx => hlt x (by simp [hx]))
  obtain ⟨a1, rfl, o1⟩ := open_u8 (hval 1 5 v1 rfl rfl) h1
  clear hA0 hval0
  refine (law_seeks v0 a0 a1 W o0 q0 m0 o1).mono fun e W' ⟨he, hb⟩ => ?_
  subst he
  refine ⟨_, rfl, _, _, _, [], p0 ++ (p1), [], hW', trodAll_mk1 (shut_bool Try.underlying4 _), ?_, rfl, hb.frame _, fun h => by cases h⟩
  have r0 := Below.trod Try.laidOut (by kernel_rfl) (of_decide_eq_true (by kernel_rfl)) k0 hb (fun x hx => hlt x (by simp [hx]))
  have r1 := Below.trod Try.laidOut (by kernel_rfl) (of_decide_eq_true (by kernel_rfl)) k1 hb (fun x hx => hlt x (by simp [hx]))
  exact trodAll_mk2 r0 r1

theorem blockSeeks_holds : Rows.BlockSeeksSaid :=
  OpenClaim.holds_of_wide 6 Try.f6 rfl rfl rfl rfl rfl rfl rfl ⟨rfl, rfl, rfl, rfl, rfl⟩ rfl rfl rfl rfl rfl (by kernel_rfl) Try.func6 (by kernel_rfl)
    (of_decide_eq_true (by kernel_rfl)) (by unfold Func.isWrapper; first | (rw [if_pos (by decide +kernel)]; kernel_rfl) | (rw [if_neg (by decide +kernel)]; exact ⟨rfl, rfl⟩))
    (fun os started H enc _ => blockSeeks_lifted os started H enc)
#print axioms blockSeeks_holds
end Go.Proofs.Ytdlendmbdikflaa
