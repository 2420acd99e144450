/-
  VdiskNames: whatever comes in, the law answers true, and leaves all as it was. No conditions.
-/
import Derived.Test.YtlhfcfalkmencaaVSd2
namespace Go.Proofs.Ytlhfcfalkmencaa
open Go.ChangeShapes Go.WideShapes Go.ChangeAt Go.RowKit Go.Joins Go.Deep Go.Maps

/-- The law's own map: each file's name, once. -/
def In (w : World) (g : Nat) (L : List Fl) : Prop :=
  ∃ D : DataW Unit, w.ownsMap Try.prog 9 (plainElem Try.prog 3) g L.length D ∧ (∀ s, Maps.has D (.string s) = (fnd L s).isSome) ∧ (∀ s, (fnd L s).isSome = true → D.atKey (.string s) (.lit (.int .i64 0)) = .lit (.int .i64 1)) ∧ Maps.size D = L.length
def cntL (L : List Fl) (s : List UInt8) : Int := if (fnd L s).isSome then 1 else 0
theorem zeroI (w : World) : (zeroValue 3).run Try.prog w = .ok (.int .i64 0) w := by kernel_rfl
theorem In.look {w : World} {g : Nat} {L : List Fl} (h : In w g L) (s : List UInt8) (hs : s.length ≤ 100000) : (Instr.lookup 41 (.map (some g)) (.string (B s)) false).run Try.prog w = .ok (.int .i64 (cntL L s)) w := by
  obtain ⟨D, h1, h2, h3, h4⟩ := h
  obtain ⟨c, hr, hat, -⟩ := h1.lookup_int lawS Try.underlying41 Try.underlying3 (zeroI w) (keyS s hs)
  rw [hr]
  congr 2
  unfold cntL
  cases hf : (fnd L s).isSome with
  | true =>
    rw [h3 s hf] at hat
    injection hat with hat
    injection hat with _ hat
    rw [if_pos rfl, hat]
  | false =>
    rw [atKey_of_not_has (by rw [h2 s, hf])] at hat
    injection hat with hat
    injection hat with _ hat
    rw [if_neg (by decide), hat]
theorem In.len {w : World} {g : Nat} {L : List Fl} (h : In w g L) (ty : TypeId) : (Builtin.len_ #[41] ty #[.map (some g)]).run Try.prog w = .ok (.int .i64 (L.length : Int)) w := by
  obtain ⟨D, h1, h2, h3, h4⟩ := h
  rw [← h4]
  exact h1.len Try.underlying41 ty
theorem In.put {w : World} {g : Nat} {L : List Fl} (h : In w g L) (hl : L.length ≤ 1000) (f : Fl) (hs : f.name.length ≤ 100000) (hf : fnd L f.name = none) :
    ∃ w', (Instr.mapUpdate 41 (.map (some g)) (.string (B f.name)) (.int .i64 1)).run Try.prog w = .ok () w' ∧ In w' g (put f L) ∧ w.grownBy w' (some g) := by
  obtain ⟨D, h1, h2, h3, h4⟩ := h
  obtain ⟨w', hr, r1, r2⟩ := h1.update lawS Try.underlying41 (by unfold maxLen; omega) (keyS f.name hs) (plainElem_int Try.underlying3 (a := 1) (by decide))
  have ht := h1.tidy lawS
  have hlen : (Go.Proofs.Ytlhfcfalkmencaa.put f L).length = L.length + 1 := by unfold Go.Proofs.Ytlhfcfalkmencaa.put; rw [del_none hf, List.length_append]; rfl
  refine ⟨w', hr, ⟨D.put (.string f.name) (.lit (.int .i64 1)), ?_, fun s => ?_, fun s hx => ?_, ?_⟩, r2⟩
  · rw [hlen]; exact r1
  · rw [fnd_put]
    by_cases e : f.name = s
    · subst e; rw [if_pos rfl, has_put_same ht.isMap (isKey _)]; rfl
    · rw [if_neg e, has_put_other (key_ne fun h => e h.symm), h2]
  · rw [fnd_put] at hx
    by_cases e : f.name = s
    · subst e; exact atKey_put_same ht.isMap (isKey _) _ _
    · rw [if_neg e] at hx
      rw [atKey_put_other (key_ne fun h => e h.symm)]
      exact h3 s hx
  · rw [size_put ht, h2, hf, h4, hlen]; rfl
theorem In.made (w : World) : In (w.alloc (.map #[] 0)) w.heap.size [] := ⟨_, World.ownsMap_made _ _ _ _, fun _ => rfl, fun _ h => (by cases h), rfl⟩
theorem In.same {w w' : World} {g : Nat} {L : List Fl} (h : In w g L) (hk : w'.heap[g]? = w.heap[g]?) : In w' g L := by
  obtain ⟨D, ⟨es, c, h1, h2⟩, h3⟩ := h
  exact ⟨D, ⟨es, c, hk.trans h1, h2⟩, h3⟩
theorem In.lt {w : World} {g : Nat} {L : List Fl} (h : In w g L) : g < w.heap.size := by
  obtain ⟨D, h1, _⟩ := h
  exact h1.lt
theorem In.off {w : World} {g : Nat} {L : List Fl} {k : Dsk} (h : In w g L) (hk : Dk w k) (hm : g ≠ k.m) (hz : k.fuse = none) : g ∉ own k := by
  obtain ⟨D, ⟨es, c, h1, _⟩, _⟩ := h
  intro hi
  simp only [own, hz, gateB, List.nil_append, List.mem_cons] at hi
  rcases hi with rfl | hi | hi
  · have := hk.disk
    unfold Bk at this
    rw [h1] at this
    cases this
  · exact hm hi
  · obtain ⟨f, hf, rfl⟩ := List.mem_map.1 hi
    have := hk.files f hf
    unfold Bk at this
    rw [h1] at this
    cases this
theorem Sd.grown {w w1 w2 : World} {k : Dsk} {g : Nat} (h : Sd w w1 k) (hg : w1.grownBy w2 (some g)) (hn : g ∉ own k) (hw : w.heap.size ≤ g) : Sd w w2 k :=
  ⟨h.dk.same fun i hi hlt => hg.block i hlt (fun e => hn (by injection e with e; exact e ▸ hi)), h.old.grown hg h.old.size (fun j hj => by cases hj; exact hw), h.new⟩

theorem nms_del (s : List UInt8) (M : List Fl) : nms (del s M) = (nms M).filter fun x => x != s := by
  unfold nms del
  rw [List.filter_map]
  rfl
theorem del_perm {M : List Fl} {R : List (List UInt8)} {s : List UInt8} (hp : (nms M).Perm (s :: R)) (hn : (s :: R).Nodup) : (nms (del s M)).Perm R := by
  rw [nms_del]
  refine (hp.filter _).trans ?_
  rw [List.filter_cons_of_neg (by simp), List.filter_eq_self.2]
  intro x hx
  rw [List.nodup_cons] at hn
  rw [bne_iff_ne]
  exact fun e => hn.1 (e ▸ hx)
theorem own_del {d m c : Nat} {M : List Fl} (s : List UInt8) : ∀ i ∈ own ⟨d, m, c, del s M, true, none⟩, i ∈ own ⟨d, m, c, M, true, none⟩ := by
  intro i hi
  simp only [own, gateB, List.nil_append, List.mem_cons] at hi ⊢
  rcases hi with hi | hi | hi
  · exact .inl hi
  · exact .inr (.inl hi)
  · obtain ⟨f, hf, rfl⟩ := List.mem_map.1 hi
    exact .inr (.inr (List.mem_map.2 ⟨f, (mem_del.1 hf).1, rfl⟩))
theorem delete_sd {w w1 : World} {d m c : Nat} {L : List Fl} (h : Sd w w1 ⟨d, m, c, L, true, none⟩) (s : List UInt8) (hb : bad s = false) {f : Fl} (hf : fnd L s = some f) :
    Calls Try.prog 21 #[ptr d, .string (B s)] w1 fun e w' => e = .returned (.int .i64 0) ∧ Sd w w' ⟨d, m, c, del s L, true, none⟩ ∧ Kept ⟨d, m, c, L, true, none⟩ ⟨d, m, c, del s L, true, none⟩ w1 w' :=
  (delete_ok ⟨d, m, c, L, true, none⟩ s w1 h.dk rfl rfl hb f hf).mono fun _ _ ⟨e1, h1, h2⟩ => ⟨e1, h.step h1 h2, h2⟩
theorem OwnT.at_ {w : World} {base : Nat} {A : Option Addr} {cap : Nat} {l : List (List UInt8)} (h : OwnT w base A cap l) (hl : l ≠ []) : ∃ g, A = some ⟨g, 0, none⟩ ∧ ∀ (i : Nat) (t : List UInt8), l[i]? = some t → w.cell? ⟨g, i, none⟩ = some (.string (B t)) := by
  rcases h.2 with h1 | ⟨g, cur, rfl, hb, hc, hi⟩
  · exact absurd h1 hl
  · exact ⟨g, rfl, fun i t ht => (hc.cell i).trans (hi i t ht)⟩

set_option maxRecDepth 10000 in
set_option maxHeartbeats 4000000 in
theorem law_names (names : List (List UInt8)) (A : Option Addr) (cap : Nat) (w : World) (hS : Strs w A cap names) :
    Calls Try.prog 6 #[.slice A names.length cap] w fun e w' => e = .returned (.bool true) ∧ Old w w' := by
  by_cases hn : names.length ≤ 40
  case neg =>
    have d1 : decide ((40 : Int) < (names.length : Int)) = true := by simp; omega
    go_enter Try.func6, Try.ntmps6
    go_wp2_with (go_at_call 8; refine (shown_any _).mono ?_; rintro e w1 ⟨rfl, k1⟩)
    go_ret
    exact ⟨rfl, k1⟩
  have d1 : decide ((40 : Int) < (names.length : Int)) = false := by simp; omega
  have hmm := @run_makeMap Try.prog
  go_enter Try.func6, Try.ntmps6
  go_wp2_with fail
  refine (shown_any _).mono ?_
  rintro e w1 ⟨rfl, k1⟩
  go_wp2_with fail
  refine (new_sd 10 (by omega) w w1 k1).mono ?_
  rintro e w2 ⟨d, m, rfl, s2⟩
  clear k1 d1
  have hi2 := In.made w2
  have hgm : w2.heap.size ≠ m := fun e => by have := s2.dk.lt m (by simp [own]); omega
  have hgw : w.heap.size ≤ w2.heap.size := s2.old.size
  have s3 := s2.go (old_alloc w2 (.map #[] 0))
  clear s2
  go_wp2_with fail
  generalize w2.heap.size = gM at *
  go_loopw [5] (fun i wr => ∃ (j : Nat) (L : List Fl), j ≤ names.length ∧ i = .int .i64 j ∧ L.length ≤ j ∧ In wr gM L ∧ Sd w wr ⟨d, m, 10, L, true, none⟩) (fun i _ => names.length - (intOf i).toNat)
  case atStart => exact ⟨0, [], Nat.zero_le _, rfl, Nat.zero_le _, hi2, s3⟩
  case round =>
    clear hi2 s3
    obtain ⟨j, L, hj, rfl, hLj, hin, hsd⟩ := hrel
    have hoff := hin.off hsd.dk hgm rfl
    by_cases hlt : j < names.length
    · obtain ⟨hm1, bb, off, rfl, hcl⟩ := hS.at_ j hlt
      have HCL := Lib.hid fun (W : World) (o : Old w W) => cell_old hcl o
      clear hcl
      generalize names[j] = t at *
      have hcl1 := HCL.out wr hsd.old
      unfold maxLen at hm1
      by_cases hl : t.length ≤ 200
      · have dl : decide ((200 : Int) < (t.length : Int)) = false := by simp; omega
        cases hb : bad t with
        | true =>
          have HC := Lib.hid (createB_sd hsd t (by omega) hb)
          clear hsd
          by_cases h1 : t.length < 1
          · have h1I : decide ((t.length : Int) < 1) = true := by simp; omega
            go_wp2_with fail
            refine HC.out.mono ?_
            rintro e w4 ⟨rfl, s4, o4⟩
            have hcl2 := HCL.out w4 s4.old
            have hin4 := hin.same (o4.block gM hin.lt)
            go_wp2
            go_roundw
            case rel => exact ⟨j + 1, L, by omega, by go_num, by omega, hin4, s4⟩
            case measure => simp [intOf]; omega
          · have h1I : decide ((t.length : Int) < 1) = false := by simp; omega
            have h2 : 60 < t.length := by
              unfold bad at hb
              rw [decide_eq_false h1, Bool.false_or, decide_eq_true_eq] at hb
              exact hb
            have h2I : decide ((60 : Int) < (t.length : Int)) = true := by simp; omega
            go_wp2_with fail
            refine HC.out.mono ?_
            rintro e w4 ⟨rfl, s4, o4⟩
            have hcl2 := HCL.out w4 s4.old
            have hin4 := hin.same (o4.block gM hin.lt)
            go_wp2
            go_roundw
            case rel => exact ⟨j + 1, L, by omega, by go_num, by omega, hin4, s4⟩
            case measure => simp [intOf]; omega
        | false =>
          obtain ⟨g1, g2⟩ := bad_no hb
          have h1I : decide ((t.length : Int) < 1) = false := by simp; omega
          have h2I : decide ((60 : Int) < (t.length : Int)) = false := by simp; omega
          cases hf : fnd L t with
          | some f =>
            have HC := Lib.hid (createT_sd hsd t hb hf)
            have hct : cntL L t = 1 := by unfold cntL; rw [hf]; rfl
            clear hsd hf
            go_wp2_with fail
            refine HC.out.mono ?_
            rintro e w4 ⟨rfl, s4, o4⟩
            have hcl2 := HCL.out w4 s4.old
            have hin4 := hin.same (o4.block gM hin.lt)
            have hlk := hin4.look t (by omega)
            rw [hct] at hlk
            go_wp2
            go_roundw
            case rel => exact ⟨j + 1, L, by omega, by go_num, by omega, hin4, s4⟩
            case measure => simp [intOf]; omega
          | none =>
            have HC := Lib.hid (create_sd hsd t hb hf (by omega))
            have hct : cntL L t = 0 := by unfold cntL; rw [hf]; rfl
            have HL := Lib.hid fun b => (show (put ⟨t, b, [], 0⟩ L).length = L.length + 1 by unfold put; rw [del_none hf, List.length_append]; rfl)
            have HF := Lib.hid hf
            clear hsd hf
            go_wp2_with fail
            refine HC.out.mono ?_
            rintro e w4 ⟨rfl, b, s4, kp4⟩
            have hcl2 := HCL.out w4 s4.old
            have hin4 := hin.same (kp4.block gM hin.lt hoff)
            have hlk := hin4.look t (by omega)
            rw [hct] at hlk
            obtain ⟨w5, hrun, hin5, hg5⟩ := hin4.put (by omega) ⟨t, b, [], 0⟩ (by show t.length ≤ 100000; omega) HF.out
            have s5 := s4.grown hg5 (hin4.off s4.dk hgm rfl) hgw
            have hlen := HL.out b
            have HI5 := Lib.hid hin5
            clear kp4 hin4 hg5 s4 hin5
            go_wp2
            go_roundw
            case rel => exact ⟨j + 1, put ⟨t, b, [], 0⟩ L, by omega, by go_num, by omega, HI5.out, s5⟩
            case measure => simp [intOf]; omega
      · have dl : decide ((200 : Int) < (t.length : Int)) = true := by simp; omega
        go_wp2_with (go_at_call 8; refine (shown_any _).mono ?_; rintro e w4 ⟨rfl, k4⟩)
        go_ret
        exact ⟨rfl, hsd.old.tr k4⟩
    · have HR1 := Lib.hid (rise_less hsd.dk.ok.names)
      have HR2 := Lib.hid (((rise_perm L).nodup_iff).2 hsd.dk.ok.names)
      have HR3 := Lib.hid (rise_length L)
      have HR4 := Lib.hid (show ∀ t ∈ rise L, bad t = false ∧ cntL L t = 1 from fun t ht => by
        obtain ⟨f, hf, rfl⟩ := List.mem_map.1 ((rise_perm L).mem_iff.1 ht)
        obtain ⟨h1, h2⟩ := hsd.dk.ok.nm f hf
        refine ⟨bad_of h1 h2, ?_⟩
        unfold cntL
        rw [fnd_of_mem hsd.dk.ok.names hf]
        rfl)
      have HR5 := Lib.hid (rise_perm L).symm
      have HR6 := Lib.hid (show (rise L).length ≤ 200 by rw [rise_length]; exact hsd.dk.ok.many)
      go_wp2_with fail
      refine (list_sd hsd).mono ?_
      rintro e w4 ⟨A4, c4, rfl, hT4, s4, o4⟩
      have hin4 := hin.same (o4.block gM hin.lt)
      have hob := hsd.dk.lt
      have hgb := hin.lt
      clear hsd hin
      generalize wr.heap.size = base at *
      generalize rise L = R at *
      go_wp2_with fail
      go_loopw [9] (fun i wr => ∃ (j : Nat) (M : List Fl), j ≤ R.length ∧ i = .int .i64 j ∧ (nms M).Perm (R.drop j) ∧ OwnT wr base A4 c4 R ∧ In wr gM L ∧ Sd w wr ⟨d, m, 10, M, true, none⟩ ∧ ∀ x ∈ own ⟨d, m, 10, M, true, none⟩, x < base) (fun i _ => R.length - (intOf i).toNat)
      case atStart => exact ⟨0, L, Nat.zero_le _, rfl, HR5.out, hT4, hin4, s4, hob⟩
      case round =>
        clear hT4 hin4 s4 hob o4
        obtain ⟨i, M, hi, rfl, hpm, hT, hin, hsd, hob⟩ := hrel
        by_cases hlt2 : i < R.length
        · have hne : R ≠ [] := fun e => by rw [e] at hlt2; simp at hlt2
          obtain ⟨g, rfl, hat⟩ := hT.at_ hne
          have hci := hat i R[i] (List.getElem?_eq_getElem hlt2)
          obtain ⟨hbt, hct⟩ := HR4.out R[i] (List.getElem_mem hlt2)
          have hdrop : R.drop i = R[i] :: R.drop (i + 1) := List.drop_eq_getElem_cons hlt2
          rw [hdrop] at hpm
          have hnd : (R[i] :: R.drop (i + 1)).Nodup := by rw [← hdrop]; exact (List.drop_sublist i R).nodup HR2.out
          have HP := Lib.hid (del_perm hpm hnd)
          have hfm : (fnd M R[i]).isSome = true := (mem_nms hsd.dk.ok.names _).1 (hpm.mem_iff.2 List.mem_cons_self)
          have hlk := (hin.same (w' := wr.drew) rfl).look R[i] (by have := bad_no hbt; omega)
          rw [hct] at hlk
          have hLen : (i : Int) < (R.length : Int) := by omega
          have hi0 : (0 : Int) ≤ (i : Int) := by omega
          have HU := Lib.hid (fun q (hq : q + 1 = i) => (show ∃ u, wr.cell? ⟨g, q, none⟩ = some (.string (B u)) ∧ Op.bytesLess u R[i] = true from ⟨R[q]'(by omega), hat q _ (List.getElem?_eq_getElem (by omega)), List.pairwise_iff_getElem.1 HR1.out q i (by omega) hlt2 (by omega)⟩))
          clear hdrop hnd hpm
          generalize R[i] = t at *
          obtain ⟨f, hf⟩ := Option.isSome_iff_exists.1 hfm
          have hsd2 := hsd.go (Old.re wr).dr
          have HD := Lib.hid (delete_sd hsd2 t hbt hf)
          have HT := Lib.hid hT
          have HIN := Lib.hid hin
          have hoff := hin.off hsd.dk hgm rfl
          have HOB := Lib.hid hob
          have hgo : g ∉ own ⟨d, m, 10, M, true, none⟩ := fun hx => by
            rcases hT.2 with h | ⟨g', cur, e, hb, _⟩
            · exact hne h
            · injection e with e
              injection e with e
              have := hob g hx
              omega
          have HC1 := Lib.hid (show ∀ w5, Kept ⟨d, m, 10, M, true, none⟩ ⟨d, m, 10, del t M, true, none⟩ wr.drew w5 → ∀ q u, wr.cell? ⟨g, q, none⟩ = some (.string (B u)) → w5.cell? ⟨g, q, none⟩ = some (.string (B u)) from fun w5 kp q u h1 => by
            have hb : w5.heap[g]? = wr.heap[g]? := kp.block g (World.block_lt_of_cell? wr ⟨g, q, none⟩ h1) hgo
            unfold World.cell? at h1 ⊢
            simp only at h1 ⊢
            rw [hb]
            exact h1)
          have HG1 := Lib.hid (show ∀ w5, Kept ⟨d, m, 10, M, true, none⟩ ⟨d, m, 10, del t M, true, none⟩ wr.drew w5 → w5.heap[gM]? = wr.heap[gM]? from fun w5 kp => kp.block gM hin.lt hoff)
          have hlkA : ∀ W : World, W.heap[gM]? = wr.heap[gM]? → (Instr.lookup 41 (.map (some gM)) (.string (B t)) false).run Try.prog W = .ok (.int .i64 1) W := fun W h => by
            have := (hin.same h).look t (by have := bad_no hbt; omega)
            rw [hct] at this
            exact this
          have HEND := Lib.hid (show ∀ w5, Sd w w5 ⟨d, m, 10, del t M, true, none⟩ → Kept ⟨d, m, 10, M, true, none⟩ ⟨d, m, 10, del t M, true, none⟩ wr.drew w5 → OwnT w5 base (some ⟨g, 0, none⟩) c4 R ∧ In w5 gM L ∧ ∀ x ∈ own ⟨d, m, 10, del t M, true, none⟩, x < base from fun w5 _ kp =>
            ⟨OwnT.kept (w := wr.drew) hT kp hob, hin.same (kp.block gM hin.lt hoff), fun x hx => hob x (own_del t x hx)⟩)
          have HCC := Lib.hid (show ∀ w5, Kept ⟨d, m, 10, M, true, none⟩ ⟨d, m, 10, del t M, true, none⟩ wr.drew w5 → ∀ q u, wr.cell? ⟨g, q, none⟩ = some (.string (B u)) → ∀ t', wr.cell? ⟨g, q + 1, none⟩ = some (.string (B t')) → w5.cell? ⟨g, q, none⟩ = some (.string (B u)) ∧ w5.cell? ⟨g, q + 1, none⟩ = some (.string (B t')) from fun w5 kp q u h1 t' h2 => by
            have hg : g ∉ own ⟨d, m, 10, M, true, none⟩ := fun hx => by
              rcases hT.2 with h | ⟨g', cur, e, hb, _⟩
              · exact hne h
              · injection e with e
                injection e with e
                have := hob g hx
                omega
            have hb : w5.heap[g]? = wr.heap[g]? := kp.block g (World.block_lt_of_cell? wr ⟨g, q, none⟩ h1) hg
            unfold World.cell? at h1 h2 ⊢
            simp only at h1 h2 ⊢
            rw [hb]
            exact ⟨h1, h2⟩)
          clear hat hfm hf hsd2 hT hin hob hct
          cases i with
          | zero =>
            clear HU
            have HLK := Lib.hid fun (W : World) (h : W.heap[gM]? = wr.heap[gM]?) => hlkA W h
            have HCK := Lib.hid fun (w5 : World) (kp : Kept ⟨d, m, 10, M, true, none⟩ ⟨d, m, 10, del t M, true, none⟩ wr.drew w5) => (show w5.cell? ⟨g, 0, none⟩ = some (.string (B t)) ∧ w5.heap[gM]? = wr.heap[gM]? from ⟨HC1.out w5 kp 0 t hci, HG1.out w5 kp⟩)
            go_wp2_with fail
            refine wp_region_noPanic ?_
            refine wp_region_held_drew (S := fun W => W.cell? ⟨g, 0, none⟩ = some (.string (B t)) ∧ W.heap[gM]? = wr.heap[gM]?) (by kernel_rfl) ⟨hci, rfl⟩ (fun hHeld => ?_)
            refine wpAnyH_take (i := 0) (oi := ?o0) (v := .map (some gM)) ?h0 (by kernel_rfl) (by kernel_rfl) (by kernel_rfl) (fun _ _ _ h => h) ?y0 (by assumption) ?r0
            case h0 => (simp only [List.getElem?_toArray, List.getElem?_cons_zero]; rfl)
            case y0 => exact Or.inl ⟨by rfl, by (intro W hSw; (try dsimp only at hSw); obtain ⟨hs1, hs2⟩ := hSw; go_simp)⟩
            simp only [Act.put, List.setIfInBounds_toArray, List.set_cons_zero, List.set_cons_succ]
            refine wpAnyH_take (i := 1) (oi := ?o1) (v := .slice (some ⟨g, 0, none⟩) R.length c4) ?h1 (by kernel_rfl) (by kernel_rfl) (by kernel_rfl) (fun _ _ _ h => h) ?y1 (by assumption) ?r1
            case h1 => (simp only [List.getElem?_toArray, List.getElem?_cons_zero, List.getElem?_cons_succ]; rfl)
            case y1 => exact Or.inl ⟨by rfl, by (intro W hSw; (try dsimp only at hSw); obtain ⟨hs1, hs2⟩ := hSw; go_simp)⟩
            simp only [Act.put, List.setIfInBounds_toArray, List.set_cons_zero, List.set_cons_succ]
            refine wpAnyH_take (i := 2) (oi := ?o2) (v := .int .i64 0) ?h2 (by kernel_rfl) (by kernel_rfl) (by kernel_rfl) (fun _ _ _ h => h) ?y2 (by assumption) ?r2
            case h2 => (simp only [List.getElem?_toArray, List.getElem?_cons_zero, List.getElem?_cons_succ]; rfl)
            case y2 => exact Or.inl ⟨by rfl, by (intro W hSw; (try dsimp only at hSw); obtain ⟨hs1, hs2⟩ := hSw; go_simp)⟩
            simp only [Act.put, List.setIfInBounds_toArray, List.set_cons_zero, List.set_cons_succ]
            refine wpAnyH_take (i := 3) (oi := ?o3) (v := .pointer (some ⟨g, 0, none⟩)) ?h3 (by kernel_rfl) (by kernel_rfl) (by kernel_rfl) (fun _ _ _ h => h) ?y3 (by assumption) ?r3
            case h3 => (simp only [List.getElem?_toArray, List.getElem?_cons_zero, List.getElem?_cons_succ]; rfl)
            case y3 => exact Or.inl ⟨by rfl, by (intro W hSw; (try dsimp only at hSw); obtain ⟨hs1, hs2⟩ := hSw; go_simp)⟩
            simp only [Act.put, List.setIfInBounds_toArray, List.set_cons_zero, List.set_cons_succ]
            refine wpAnyH_take (i := 4) (oi := ?o4) (v := .string (B t)) ?h4 (by kernel_rfl) (by kernel_rfl) (by kernel_rfl) (fun _ _ _ h => h) ?y4 (by assumption) ?r4
            case h4 => (simp only [List.getElem?_toArray, List.getElem?_cons_zero, List.getElem?_cons_succ]; rfl)
            case y4 => exact Or.inl ⟨by rfl, by (intro W hSw; (try dsimp only at hSw); obtain ⟨hs1, hs2⟩ := hSw; go_simp)⟩
            simp only [Act.put, List.setIfInBounds_toArray, List.set_cons_zero, List.set_cons_succ]
            refine wpAnyH_take (i := 5) (oi := ?o5) (v := .int .i64 1) ?h5 (by kernel_rfl) (by kernel_rfl) (by kernel_rfl) (fun _ _ _ h => h) ?y5 (by assumption) ?r5
            case h5 => (simp only [List.getElem?_toArray, List.getElem?_cons_zero, List.getElem?_cons_succ]; rfl)
            case y5 => exact Or.inl ⟨by rfl, by (intro W hSw; (try dsimp only at hSw); obtain ⟨hs1, hs2⟩ := hSw; have hlk2 := HLK.out W hs2; go_simp)⟩
            simp only [Act.put, List.setIfInBounds_toArray, List.set_cons_zero, List.set_cons_succ]
            refine wpAnyH_take (i := 6) (oi := ?o6) (v := .bool false) ?h6 (by kernel_rfl) (by kernel_rfl) (by kernel_rfl) (fun _ _ _ h => h) ?y6 (by assumption) ?r6
            case h6 => (simp only [List.getElem?_toArray, List.getElem?_cons_zero, List.getElem?_cons_succ]; rfl)
            case y6 => exact Or.inl ⟨by rfl, by (intro W hSw; (try dsimp only at hSw); obtain ⟨hs1, hs2⟩ := hSw; go_simp)⟩
            simp only [Act.put, List.setIfInBounds_toArray, List.set_cons_zero, List.set_cons_succ]
            refine wpAnyH_take (i := 7) (oi := ?o7) (v := .bool false) ?h7 (by kernel_rfl) (by kernel_rfl) (by kernel_rfl) (fun _ _ _ h => h) ?y7 (by assumption) ?r7
            case h7 => (simp only [List.getElem?_toArray, List.getElem?_cons_zero, List.getElem?_cons_succ]; rfl)
            case y7 => exact Or.inl ⟨by rfl, by (intro W hSw; (try dsimp only at hSw); obtain ⟨hs1, hs2⟩ := hSw; go_simp)⟩
            simp only [Act.put, List.setIfInBounds_toArray, List.set_cons_zero, List.set_cons_succ]
            refine wpAnyH_take (i := 8) (oi := ?o8) (v := .int .i64 0) ?h8 (by kernel_rfl) (by kernel_rfl) (by kernel_rfl) (fun _ _ _ h => h) ?y8 (by assumption) ?r8
            case h8 => (simp only [List.getElem?_toArray, List.getElem?_cons_zero, List.getElem?_cons_succ]; rfl)
            case y8 => exact Or.inl ⟨by rfl, by (intro W hSw; (try dsimp only at hSw); obtain ⟨hs1, hs2⟩ := hSw; go_simp)⟩
            simp only [Act.put, List.setIfInBounds_toArray, List.set_cons_zero, List.set_cons_succ]
            refine wpAnyH_take (i := 9) (oi := ?o9) (v := .bool false) ?h9 (by kernel_rfl) (by kernel_rfl) (by kernel_rfl) (fun _ _ _ h => h) ?y9 (by assumption) ?r9
            case h9 => (simp only [List.getElem?_toArray, List.getElem?_cons_zero, List.getElem?_cons_succ]; rfl)
            case y9 => exact Or.inl ⟨by rfl, by (intro W hSw; (try dsimp only at hSw); obtain ⟨hs1, hs2⟩ := hSw; go_simp)⟩
            simp only [Act.put, List.setIfInBounds_toArray, List.set_cons_zero, List.set_cons_succ]
            refine wpAnyH_take (i := 10) (oi := ?o10) (v := .bool false) ?h10 (by kernel_rfl) (by kernel_rfl) (by kernel_rfl) (fun _ _ _ h => h) ?y10 (by assumption) ?r10
            case h10 => (simp only [List.getElem?_toArray, List.getElem?_cons_zero, List.getElem?_cons_succ]; rfl)
            case y10 => exact Or.inl ⟨by rfl, by (intro W hSw; (try dsimp only at hSw); obtain ⟨hs1, hs2⟩ := hSw; go_simp)⟩
            simp only [Act.put, List.setIfInBounds_toArray, List.set_cons_zero, List.set_cons_succ]
            refine wpAnyH_take (i := 11) (oi := ?o11) (v := undef) ?h11 (by kernel_rfl) (by kernel_rfl) (by kernel_rfl) (fun _ _ _ h => h) ?y11 (by assumption) ?r11
            case h11 => (simp only [List.getElem?_toArray, List.getElem?_cons_zero, List.getElem?_cons_succ]; rfl)
            case y11 => exact Or.inr ⟨by rfl, rfl⟩
            simp only [Act.put, List.setIfInBounds_toArray, List.set_cons_zero, List.set_cons_succ]
            refine wpAnyH_take (i := 12) (oi := ?o12) (v := undef) ?h12 (by kernel_rfl) (by kernel_rfl) (by kernel_rfl) (fun _ _ _ h => h) ?y12 (by assumption) ?r12
            case h12 => (simp only [List.getElem?_toArray, List.getElem?_cons_zero, List.getElem?_cons_succ]; rfl)
            case y12 => exact Or.inr ⟨by rfl, rfl⟩
            simp only [Act.put, List.setIfInBounds_toArray, List.set_cons_zero, List.set_cons_succ]
            refine wpAnyH_take (i := 13) (oi := ?o13) (v := undef) ?h13 (by kernel_rfl) (by kernel_rfl) (by kernel_rfl) (fun _ _ _ h => h) ?y13 (by assumption) ?r13
            case h13 => (simp only [List.getElem?_toArray, List.getElem?_cons_zero, List.getElem?_cons_succ]; rfl)
            case y13 => exact Or.inr ⟨by rfl, rfl⟩
            simp only [Act.put, List.setIfInBounds_toArray, List.set_cons_zero, List.set_cons_succ]
            refine wpAnyH_take (i := 14) (oi := ?o14) (v := undef) ?h14 (by kernel_rfl) (by kernel_rfl) (by kernel_rfl) (fun _ _ _ h => h) ?y14 (by assumption) ?r14
            case h14 => (simp only [List.getElem?_toArray, List.getElem?_cons_zero, List.getElem?_cons_succ]; rfl)
            case y14 => exact Or.inr ⟨by rfl, rfl⟩
            simp only [Act.put, List.setIfInBounds_toArray, List.set_cons_zero, List.set_cons_succ]
            refine wpAnyH_take (i := 15) (oi := ?o15) (v := undef) ?h15 (by kernel_rfl) (by kernel_rfl) (by kernel_rfl) (fun _ _ _ h => h) ?y15 (by assumption) ?r15
            case h15 => (simp only [List.getElem?_toArray, List.getElem?_cons_zero, List.getElem?_cons_succ]; rfl)
            case y15 => exact Or.inr ⟨by rfl, rfl⟩
            simp only [Act.put, List.setIfInBounds_toArray, List.set_cons_zero, List.set_cons_succ]
            refine wpAnyH_take (i := 16) (oi := ?o16) (v := undef) ?h16 (by kernel_rfl) (by kernel_rfl) (by kernel_rfl) (fun _ _ _ h => h) ?y16 (by assumption) ?r16
            case h16 => (simp only [List.getElem?_toArray, List.getElem?_cons_zero, List.getElem?_cons_succ]; rfl)
            case y16 => exact Or.inr ⟨by rfl, rfl⟩
            simp only [Act.put, List.setIfInBounds_toArray, List.set_cons_zero, List.set_cons_succ]
            refine wpAnyH_take (i := 17) (oi := ?o17) (v := undef) ?h17 (by kernel_rfl) (by kernel_rfl) (by kernel_rfl) (fun _ _ _ h => h) ?y17 (by assumption) ?r17
            case h17 => (simp only [List.getElem?_toArray, List.getElem?_cons_zero, List.getElem?_cons_succ]; rfl)
            case y17 => exact Or.inr ⟨by rfl, rfl⟩
            simp only [Act.put, List.setIfInBounds_toArray, List.set_cons_zero, List.set_cons_succ]
            refine wpAnyH_take (i := 18) (oi := ?o18) (v := undef) ?h18 (by kernel_rfl) (by kernel_rfl) (by kernel_rfl) (fun _ _ _ h => h) ?y18 (by assumption) ?r18
            case h18 => (simp only [List.getElem?_toArray, List.getElem?_cons_zero, List.getElem?_cons_succ]; rfl)
            case y18 => exact Or.inr ⟨by rfl, rfl⟩
            simp only [Act.put, List.setIfInBounds_toArray, List.set_cons_zero, List.set_cons_succ]
            refine wpAnyH_take (i := 19) (oi := ?o19) (v := undef) ?h19 (by kernel_rfl) (by kernel_rfl) (by kernel_rfl) (fun _ _ _ h => h) ?y19 (by assumption) ?r19
            case h19 => (simp only [List.getElem?_toArray, List.getElem?_cons_zero, List.getElem?_cons_succ]; rfl)
            case y19 => exact Or.inr ⟨by rfl, rfl⟩
            simp only [Act.put, List.setIfInBounds_toArray, List.set_cons_zero, List.set_cons_succ]
            refine wpAnyH_take (i := 20) (oi := ?o20) (v := undef) ?h20 (by kernel_rfl) (by kernel_rfl) (by kernel_rfl) (fun _ _ _ h => h) ?y20 (by assumption) ?r20
            case h20 => (simp only [List.getElem?_toArray, List.getElem?_cons_zero, List.getElem?_cons_succ]; rfl)
            case y20 => exact Or.inr ⟨by rfl, rfl⟩
            simp only [Act.put, List.setIfInBounds_toArray, List.set_cons_zero, List.set_cons_succ]
            refine wpAnyH_take (i := 21) (oi := ?o21) (v := .bool false) ?h21 (by kernel_rfl) (by kernel_rfl) (by kernel_rfl) (fun _ _ _ h => h) ?y21 (by assumption) ?r21
            case h21 => (simp only [List.getElem?_toArray, List.getElem?_cons_zero, List.getElem?_cons_succ]; rfl)
            case y21 => exact Or.inl ⟨by rfl, by (intro W hSw; (try dsimp only at hSw); obtain ⟨hs1, hs2⟩ := hSw; go_simp)⟩
            simp only [Act.put, List.setIfInBounds_toArray, List.set_cons_zero, List.set_cons_succ]
            refine wpAnyH_take (i := 22) (oi := ?o22) (v := .bool false) ?h22 (by kernel_rfl) (by kernel_rfl) (by kernel_rfl) (fun _ _ _ h => h) ?y22 (by assumption) ?r22
            case h22 => (simp only [List.getElem?_toArray, List.getElem?_cons_zero, List.getElem?_cons_succ]; rfl)
            case y22 => exact Or.inl ⟨by rfl, by (intro W hSw; (try dsimp only at hSw); obtain ⟨hs1, hs2⟩ := hSw; go_simp)⟩
            simp only [Act.put, List.setIfInBounds_toArray, List.set_cons_zero, List.set_cons_succ]
            refine wpAnyH_take (i := 23) (oi := ?o23) (v := .bool false) ?h23 (by kernel_rfl) (by kernel_rfl) (by kernel_rfl) (fun _ _ _ h => h) ?y23 (by assumption) ?r23
            case h23 => (simp only [List.getElem?_toArray, List.getElem?_cons_zero, List.getElem?_cons_succ]; rfl)
            case y23 => exact Or.inl ⟨by rfl, by (intro W hSw; (try dsimp only at hSw); obtain ⟨hs1, hs2⟩ := hSw; go_simp)⟩
            simp only [Act.put, List.setIfInBounds_toArray, List.set_cons_zero, List.set_cons_succ]
            refine wpAnyH_take (i := 24) (oi := ?o24) (v := ptr d) ?h24 (by kernel_rfl) (by kernel_rfl) (by kernel_rfl) (fun _ _ _ h => h) ?y24 (by assumption) ?r24
            case h24 => (simp only [List.getElem?_toArray, List.getElem?_cons_zero, List.getElem?_cons_succ]; rfl)
            case y24 => exact Or.inl ⟨by rfl, by (intro W hSw; (try dsimp only at hSw); obtain ⟨hs1, hs2⟩ := hSw; go_simp)⟩
            simp only [Act.put, List.setIfInBounds_toArray, List.set_cons_zero, List.set_cons_succ]
            refine wpAnyH_take (i := 25) (oi := ?o25) (v := .slice (some ⟨g, 0, none⟩) R.length c4) ?h25 (by kernel_rfl) (by kernel_rfl) (by kernel_rfl) (fun _ _ _ h => h) ?y25 (by assumption) ?r25
            case h25 => (simp only [List.getElem?_toArray, List.getElem?_cons_zero, List.getElem?_cons_succ]; rfl)
            case y25 => exact Or.inl ⟨by rfl, by (intro W hSw; (try dsimp only at hSw); obtain ⟨hs1, hs2⟩ := hSw; go_simp)⟩
            simp only [Act.put, List.setIfInBounds_toArray, List.set_cons_zero, List.set_cons_succ]
            refine wpAnyH_take (i := 26) (oi := ?o26) (v := .int .i64 0) ?h26 (by kernel_rfl) (by kernel_rfl) (by kernel_rfl) (fun _ _ _ h => h) ?y26 (by assumption) ?r26
            case h26 => (simp only [List.getElem?_toArray, List.getElem?_cons_zero, List.getElem?_cons_succ]; rfl)
            case y26 => exact Or.inl ⟨by rfl, by (intro W hSw; (try dsimp only at hSw); obtain ⟨hs1, hs2⟩ := hSw; go_simp)⟩
            simp only [Act.put, List.setIfInBounds_toArray, List.set_cons_zero, List.set_cons_succ]
            refine wpAnyH_take (i := 27) (oi := ?o27) (v := .pointer (some ⟨g, 0, none⟩)) ?h27 (by kernel_rfl) (by kernel_rfl) (by kernel_rfl) (fun _ _ _ h => h) ?y27 (by assumption) ?r27
            case h27 => (simp only [List.getElem?_toArray, List.getElem?_cons_zero, List.getElem?_cons_succ]; rfl)
            case y27 => exact Or.inl ⟨by rfl, by (intro W hSw; (try dsimp only at hSw); obtain ⟨hs1, hs2⟩ := hSw; go_simp)⟩
            simp only [Act.put, List.setIfInBounds_toArray, List.set_cons_zero, List.set_cons_succ]
            refine wpAnyH_take (i := 28) (oi := ?o28) (v := .string (B t)) ?h28 (by kernel_rfl) (by kernel_rfl) (by kernel_rfl) (fun _ _ _ h => h) ?y28 (by assumption) ?r28
            case h28 => (simp only [List.getElem?_toArray, List.getElem?_cons_zero, List.getElem?_cons_succ]; rfl)
            case y28 => exact Or.inl ⟨by rfl, by (intro W hSw; (try dsimp only at hSw); obtain ⟨hs1, hs2⟩ := hSw; go_simp)⟩
            simp only [Act.put, List.setIfInBounds_toArray, List.set_cons_zero, List.set_cons_succ]
            refine wpAnyH_ready (rs := [29]) (by kernel_rfl) (by simp) ?_
            refine AllReadyH.cons (o := ?o29) ?h29 (fun K hK => ?r29) AllReadyH.nil
            case h29 => (simp only [List.getElem?_toArray, List.getElem?_cons_zero, List.getElem?_cons_succ]; rfl)
            go_simp
            refine HD.out.mono ?_
            rintro r w5 ⟨rfl, s5, kp5⟩
            clear hHeld
            refine hK.out _ _ (HCK.out w5 kp5) (fun hHeld => ?_)
            clear hK K
            try simp only [Act.put, List.setIfInBounds_toArray, List.set_cons_zero, List.set_cons_succ]
            refine wpAnyH_take (i := 30) (oi := ?o30) (v := .bool false) ?h30 (by kernel_rfl) (by kernel_rfl) (by kernel_rfl) (fun _ _ _ h => h) ?y30 (by assumption) ?r30
            case h30 => (simp only [List.getElem?_toArray, List.getElem?_cons_zero, List.getElem?_cons_succ]; rfl)
            case y30 => exact Or.inl ⟨by rfl, by (intro W hSw; (try dsimp only at hSw); obtain ⟨hs1, hs2⟩ := hSw; go_simp)⟩
            simp only [Act.put, List.setIfInBounds_toArray, List.set_cons_zero, List.set_cons_succ]
            refine wpAnyH_take (i := 31) (oi := ?o31) (v := .bool false) ?h31 (by kernel_rfl) (by kernel_rfl) (by kernel_rfl) (fun _ _ _ h => h) ?y31 (by assumption) ?r31
            case h31 => (simp only [List.getElem?_toArray, List.getElem?_cons_zero, List.getElem?_cons_succ]; rfl)
            case y31 => exact Or.inl ⟨by rfl, by (intro W hSw; (try dsimp only at hSw); obtain ⟨hs1, hs2⟩ := hSw; go_simp)⟩
            simp only [Act.put, List.setIfInBounds_toArray, List.set_cons_zero, List.set_cons_succ]
            refine wpAnyH_done (by kernel_rfl) ?_ _
            refine NoPanic.normal ?_
            have hE := HEND.out w5 s5 kp5
            go_wp2
            go_roundw
            case rel => exact ⟨0 + 1, del t M, by omega, by go_num, HP.out, hE.1, hE.2.1, s5, hE.2.2⟩
            case measure => simp [intOf]; omega
          | succ q =>
            obtain ⟨u, hcu, hlu⟩ := HU.out q rfl
            clear HU
            obtain ⟨hlu2, hlu3, hlu4⟩ := less_no hlu
            have hRl : R.length ≤ 200 := HR6.out
            have hw1 : IntKind.i64.wrap ((q : Int) + 1 - 1) = (q : Int) := by rw [IntKind.wrap_i64]; omega
            have hw2 : IntKind.i64.wrap (q : Int) = (q : Int) := by rw [IntKind.wrap_i64]; omega
            have hb1 : (0 : Int) ≤ (q : Int) := by omega
            have hb2 : (q : Int) < (R.length : Int) := by omega
            have hb3 : (q : Int) + 1 < (R.length : Int) := by omega
            have hb4 : (0 : Int) ≤ (q : Int) + 1 := by omega
            have hb5 : ((q : Int) + 1).toNat = q + 1 := by omega
            have hb6 : decide ((0 : Int) < (q : Int) + 1) = true := by rw [decide_eq_true_eq]; omega
            have HCK := Lib.hid fun (w5 : World) (kp : Kept ⟨d, m, 10, M, true, none⟩ ⟨d, m, 10, del t M, true, none⟩ wr.drew w5) => (show w5.cell? ⟨g, q, none⟩ = some (.string (B u)) ∧ w5.cell? ⟨g, q + 1, none⟩ = some (.string (B t)) from HCC.out w5 kp q u hcu t hci)
            go_wp2_with fail
            go_region_held3 (fun W => W.cell? ⟨g, q, none⟩ = some (.string (B u)) ∧ W.cell? ⟨g, q + 1, none⟩ = some (.string (B t))) (first | exact ⟨hcu, hci⟩ | exact HCK.out _ (by assumption))
              (first
                | (go_at_call 21; with_reducible refine HD.out.mono ?_; rintro r w5 ⟨rfl, s5, kp5⟩))
            have hE := HEND.out w5 s5 kp5
            go_wp2
            go_roundw
            case rel => exact ⟨q + 1 + 1, del t M, by omega, by go_num, HP.out, hE.1, hE.2.1, s5, hE.2.2⟩
            case measure => simp [intOf]; omega
        · obtain rfl : i = R.length := by omega
          rw [List.drop_length] at hpm
          have hM : M = [] := by
            have := hpm.eq_nil
            unfold nms at this
            simpa using this
          subst hM
          have hlen := fun ty => hin.len ty
          rw [← HR3.out] at hlen
          have HL := Lib.hid (list_sd hsd)
          rw [show (rise ([] : List Fl)).length = 0 from rise_length []] at HL
          go_wp2_with fail
          refine HL.out.mono ?_
          rintro e w5 ⟨A5, c5, rfl, -, s5, -⟩
          go_wp2
          go_ret
          exact ⟨rfl, s5.old⟩

set_option maxRecDepth 100000 in
theorem vdiskNames_lifted (os : Os) (started : os.Started) (H : Type) (enc : TypeId × Value → H) :
    ReturnsInHanded {} Try.checked os 6 .any (Rows.vdiskNamesSpec.pre6 enc Try.prog Try.f6 Rows.vdiskNamesRow.domain false) (Rows.vdiskNamesSpec.post enc Try.prog Try.f6 false true false false) := by
  refine returnsInHanded_of_change (C := Try.checked) Try.own started (by kernel_rfl) Try.func6
    (ChangeSpec.witness6 (enc := enc) (C := Try.checked) false ⟨#[], #[.slice none 0 0], []⟩ 8 (by kernel_rfl) (by kernel_rfl) (by kernel_rfl) (by kernel_rfl)) ?_
  intro W base args ds gs before hval0 hW hcnd _
  have hval : ∀ (j : Nat) t v, Try.f6.params[j]? = some t → args[j]? = some v → Value.okWide Try.prog W .any base t v := hval0
  have hW' := hW
  obtain ⟨p, q, hA0, hV, rfl, hfz, hnd⟩ := hW
  have hA : DataW.TrodAll enc Try.prog W 0 (fun _ => true) true Try.f6.params.toList args.toList ds p := hA0
  rw [Try.params6] at hA hval
  obtain ⟨v0, d0, rfl, rfl, h0⟩ := trodAll_one hA
  obtain ⟨rfl, rfl⟩ := trodVars_none hV
  have hlt : ∀ x ∈ p, x.block < W.heap.size := fun x hx => hW'.lt x (by simpa using hx)
  have k0 := h0
  obtain ⟨a0, A0, c0, rfl, o0, m0⟩ := open_strs (hval 0 22 v0 rfl rfl) h0 (fun x hx => hlt x (by simp [hx]))
  clear hA0 hval0
  refine (law_names a0 A0 c0 W o0).mono fun e W' ⟨he, hb⟩ => ?_
  subst he
  refine ⟨_, rfl, _, _, _, [], p, [], hW', trodAll_mk1 (shut_bool Try.underlying4 _), ?_, rfl, hb.frame _, fun h => by cases h⟩
  have r0 := Below.trod Try.laidOut (by kernel_rfl) (of_decide_eq_true (by kernel_rfl)) k0 hb (fun x hx => hlt x (by simp [hx]))
  exact trodAll_mk1 r0

theorem vdiskNames_holds : Rows.VdiskNamesSaid :=
  OpenClaim.holds_of_wide 6 Try.f6 rfl rfl rfl rfl rfl rfl rfl ⟨rfl, rfl, rfl, rfl, rfl⟩ rfl rfl rfl rfl rfl (by kernel_rfl) Try.func6 (by kernel_rfl)
    (of_decide_eq_true (by kernel_rfl)) (by unfold Func.isWrapper; first | (rw [if_pos (by decide +kernel)]; kernel_rfl) | (rw [if_neg (by decide +kernel)]; exact ⟨rfl, rfl⟩))
    (fun os started H enc _ => vdiskNames_lifted os started H enc)
#print axioms vdiskNames_holds
end Go.Proofs.Ytlhfcfalkmencaa
