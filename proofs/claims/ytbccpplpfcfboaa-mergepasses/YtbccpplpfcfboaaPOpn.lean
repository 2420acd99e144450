/-
  Lists of lists of items: such as come in, and as the statements' own types. No conditions but lengths.
-/
import Derived.Test.YtbccpplpfcfboaaRLft
namespace Go.Proofs.Ytbccpplpfcfboaa
open Go.ChangeShapes Go.WideShapes Go.ChangeAt Go.RowKit Go.Joins Go.Deep

section
variable {H : Type} {enc : TypeId × Value → H} {w : World} {base : Nat} {spare : Nat → Bool} {held : Bool}
set_option maxRecDepth 100000 in
theorem trod_its {fuel : Nat} {c : Value} {y : DataW H × List MemPlace} (hf : DataW.trod enc Try.prog w base spare held fuel 32 [c] = some y) :
    ∃ l : List Itm, Itms w c l ∧ l.length ≤ maxLen ∧ (l = [] ∨ ∃ es sp, y.1 = .slice es sp ∧ es.length = l.length) := by
  rcases open_slice Try.underlying32 hf with ⟨h0, -⟩ | ⟨a, len, cap, m, n, D, Pl, hcs, hb, hl, hm, hmm, hx, hi⟩
  · obtain rfl : c = .slice none 0 0 := by simpa using h0
    exact ⟨[], .inl ⟨rfl, rfl⟩, by simp, .inl rfl⟩
  · obtain rfl : c = .slice (some a) len cap := by simpa using hcs
    have hml : len ≤ m := by rw [hmm]; split <;> omega
    rw [Try.cells45] at hi
    have hc : ∀ i, i < len → ∃ c : Itm, ∀ j, j < 7 → w.cell? ((a.add (i * 7)).add j) = (icells c)[j]? := by
      intro i hil
      obtain ⟨cs', h1, h2⟩ := hi i (by omega)
      obtain ⟨c, rfl⟩ := trod_itm h2
      obtain ⟨_, _, hat⟩ := World.cells?_some h1
      exact ⟨c, fun j hj => by rw [hat j hj]; simp⟩
    have hd : y.1 = .slice ((List.range len).map D) ((List.range (m - len)).map fun j => D (len + j)) := congrArg Prod.fst hx
    rcases Nat.eq_zero_or_pos len with h0 | h0
    · subst h0
      exact ⟨[], .inr ⟨a, cap, rfl, by simp, fun h => absurd rfl h⟩, by simp, .inl rfl⟩
    · obtain ⟨b, off, spot⟩ := a
      have hspot : spot = none := by
        obtain ⟨c, h1⟩ := hc 0 h0
        have h2 := h1 0 (by omega)
        have h3 : w.cell? ⟨b, off, spot⟩ = some (.string (B c.c.row)) := by simpa [Addr.add] using h2
        simpa using World.cell?_spot h3
      subst hspot
      classical
      refine ⟨(List.range len).map fun i => if hlt : i < len then Classical.choose (hc i hlt) else ⟨⟨[], [], 0, 0, false, []⟩, 0⟩, .inr ⟨⟨b, off, none⟩, cap, by simp, by simp; omega, fun _ => ⟨b, off, rfl, ?_⟩⟩, by simp; omega, .inr ⟨_, _, hd, by simp⟩⟩
      intro i c hic
      rw [List.getElem?_map] at hic
      rcases Nat.lt_or_ge i len with hlt | hge
      · rw [List.getElem?_range hlt] at hic
        simp only [Option.map_some, dif_pos hlt, Option.some.injEq] at hic
        have hs := Classical.choose_spec (hc i hlt)
        rw [hic] at hs
        have hj : ∀ j, j < 7 → w.cell? ⟨b, off + i * 7 + j, none⟩ = (icells c)[j]? := fun j hj => by
          have := hs j hj
          rwa [Addr.add_lit, Addr.add_lit] at this
        exact ⟨hj 0 (by omega), hj 1 (by omega), hj 2 (by omega), hj 3 (by omega), hj 4 (by omega), hj 5 (by omega), hj 6 (by omega)⟩
      · rw [List.getElem?_eq_none (by simpa using hge)] at hic
        cases hic
theorem Try.cells32 : Try.prog.cellsOf 32 = 1 := by kernel_rfl
set_option maxRecDepth 100000 in
theorem open_lsts {r : Reach} {b0 : Nat} {v : Value} {d : DataW H} {p : List MemPlace} (hv : Value.okWide Try.prog w r b0 30 v) (h : DataW.Trod enc Try.prog w base spare held 30 v d p) :
    ∃ Ls : List (List Itm), Lsts w v Ls ∧ Ls.length ≤ maxLen ∧ ∀ (i : Nat) (L : List Itm), Ls[i]? = some L → L = [] ∨ ∃ es sp es' sp', d = .slice es sp ∧ es[i]? = some (.slice es' sp') ∧ es'.length = L.length := by
  obtain ⟨A, len, cap, rfl⟩ := okWide_slice Try.underlying30 hv
  obtain ⟨fuel, hf⟩ := h
  rcases open_slice Try.underlying30 (by simpa [Value.cells] using hf) with ⟨h0, -⟩ | ⟨a, len', cap', m, n, D, Pl, hcs, hb, hl, hm, hmm, hx, hi⟩
  · simp only [List.cons.injEq, Value.slice.injEq, and_true] at h0
    obtain ⟨rfl, rfl, rfl⟩ := h0
    exact ⟨[], .inl ⟨rfl, rfl⟩, by simp, fun i L hL => by simp at hL⟩
  · simp only [List.cons.injEq, Value.slice.injEq, and_true] at hcs
    obtain ⟨rfl, rfl, rfl⟩ := hcs
    have hml : len ≤ m := by rw [hmm]; split <;> omega
    rw [Try.cells32] at hi
    have hc : ∀ i, i < len → ∃ (u : Value) (l : List Itm), w.cell? (a.add (i * 1)) = some u ∧ Itms w u l ∧ l.length ≤ maxLen ∧ (l = [] ∨ ∃ es sp, D i = .slice es sp ∧ es.length = l.length) := by
      intro i hil
      obtain ⟨cs', h1, h2⟩ := hi i (by omega)
      obtain ⟨hsz, _, hat⟩ := World.cells?_some h1
      match cs', hsz with
      | [u], _ =>
        obtain ⟨l, q1, q2, q3⟩ := trod_its h2
        refine ⟨u, l, ?_, q1, q2, q3⟩
        have := hat 0 (by omega)
        simpa [Addr.add] using this
    have hd : d = .slice ((List.range len).map D) ((List.range (m - len)).map fun j => D (len + j)) := congrArg Prod.fst hx
    rcases Nat.eq_zero_or_pos len with h0 | h0
    · subst h0
      exact ⟨[], .inr ⟨a, cap, rfl, by simp, fun h => absurd rfl h⟩, by simp, fun i L hL => by simp at hL⟩
    · obtain ⟨b, off, spot⟩ := a
      have hspot : spot = none := by
        obtain ⟨u, l, h1, -⟩ := hc 0 h0
        have h3 : w.cell? ⟨b, off, spot⟩ = some u := by simpa [Addr.add] using h1
        simpa using World.cell?_spot h3
      subst hspot
      have hc2 : ∀ i, i < len → ∃ (u : Value) (l : List Itm), w.cell? ⟨b, off + i, none⟩ = some u ∧ Itms w u l ∧ l.length ≤ maxLen ∧ (l = [] ∨ ∃ es sp, D i = .slice es sp ∧ es.length = l.length) := fun i hi => by
        obtain ⟨u, l, h1, h2⟩ := hc i hi
        rw [Addr.add_lit, Nat.mul_one] at h1
        exact ⟨u, l, h1, h2⟩
      classical
      have key : ∀ (i : Nat) (L : List Itm), ((List.range len).map fun i => if hlt : i < len then Classical.choose (Classical.choose_spec (hc2 i hlt)) else [])[i]? = some L → ∃ hlt : i < len, L = Classical.choose (Classical.choose_spec (hc2 i hlt)) := fun i L hL => by
        rw [List.getElem?_map] at hL
        rcases Nat.lt_or_ge i len with hlt | hge
        · rw [List.getElem?_range hlt] at hL
          simp only [Option.map_some, dif_pos hlt, Option.some.injEq] at hL
          exact ⟨hlt, hL.symm⟩
        · rw [List.getElem?_eq_none (by simpa using hge)] at hL
          cases hL
      refine ⟨(List.range len).map fun i => if hlt : i < len then Classical.choose (Classical.choose_spec (hc2 i hlt)) else [], .inr ⟨⟨b, off, none⟩, cap, by simp, by simp; omega, fun _ => ⟨b, off, rfl, fun i L hL => ?_⟩⟩, by simp; omega, fun i L hL => ?_⟩
      · obtain ⟨hlt, rfl⟩ := key i L hL
        obtain ⟨q1, q2, -⟩ := Classical.choose_spec (Classical.choose_spec (hc2 i hlt))
        exact ⟨_, q1, q2⟩
      · obtain ⟨hlt, rfl⟩ := key i L hL
        obtain ⟨-, -, -, q4⟩ := Classical.choose_spec (Classical.choose_spec (hc2 i hlt))
        rcases q4 with q | ⟨es, sp, q5, q6⟩
        · exact .inl q
        · exact .inr ⟨_, _, es, sp, hd, by rw [List.getElem?_map, List.getElem?_range hlt]; simp [q5], q6⟩
end
theorem weightsAll_mem {H : Type} {P : Program} {e : TypeId} : ∀ {ds : List (DataW H)} {i : Nat} {d : DataW H}, ds[i]? = some d → ∀ n ∈ d.weights P e, n ∈ DataW.weightsAll P e ds
  | [], i, d, h => by simp at h
  | x :: ds, 0, d, h => fun n hn => by
    simp only [List.getElem?_cons_zero, Option.some.injEq] at h
    subst h
    rw [DataW.weightsAll]
    exact List.mem_append.2 (.inl hn)
  | x :: ds, i + 1, d, h => fun n hn => by
    rw [DataW.weightsAll]
    exact List.mem_append.2 (.inr (weightsAll_mem (by simpa using h) n hn))
theorem sized_inner {H : Type} {P : Program} {ts : List TypeId} {ds : List (DataW H)} (h : (DataW.weightsEach P ts ds).all (· ≤ reachBytes) = true) {j i : Nat} {t e f : TypeId} {es sp es' sp' : List (DataW H)} (ht : ts[j]? = some t) (hd : ds[j]? = some (.slice es sp)) (hu : P.underlying t = some (.slice e)) (hu2 : P.underlying e = some (.slice f)) (hi : es[i]? = some (.slice es' sp')) : (es'.length + sp'.length) * P.bytesOf f ≤ reachBytes := by
  have h1 := DataW.weights_mem_each (P := P) ht hd ((es'.length + sp'.length) * P.bytesOf f) (by
    rw [DataW.weights, hu]
    refine List.mem_cons_of_mem _ (List.mem_append.2 (.inl (weightsAll_mem hi _ ?_)))
    rw [DataW.weights, hu2]
    exact List.mem_cons_self)
  simpa using List.all_eq_true.1 h _ h1

/-- Items, as the reference's. -/
def RitN (w : World) (u : Value) (l : List Itm) : Prop := (u = .slice none 0 0 ∧ l = []) ∨ RitR w u l
theorem RitN.of {w : World} {base : Nat} {u : Value} {l : List Itm} (h : OwnE 56 w base u l) : RitN w u l := by
  rcases h.2 with ⟨rfl, hn⟩ | ⟨g, cap, cur, hv, hb, hg, hnc, hcm, hcs, htake⟩
  · exact .inl ⟨rfl, List.eq_nil_of_length_eq_zero hn⟩
  · refine .inr ⟨g, cap, cur.toList.drop (l.length * 7), hv, hnc, ?_⟩
    unfold Bk
    rw [← htake, List.take_append_drop]
    simpa using hg
theorem RitN.its {w : World} {u : Value} {l : List Itm} (h : RitN w u l) : Itms w u l := by
  rcases h with h | h
  · exact .inl h
  · exact h.its
theorem RitN.old {w w' : World} {u : Value} {l : List Itm} (h : RitN w u l) (o : Old w w') : RitN w' u l := h.imp id fun h => h.old o
theorem RitN.grown {w w' : World} {base n : Nat} {v u : Value} {vs : List Value} {l : List Itm} (h : RitN w u l) (ho : w.ownsRow base 40 1 v n vs) (hg : w.grownBy w' v.ownBlock) : RitN w' u l := h.imp id fun h => h.grown ho hg
theorem RitN.one {w : World} {u : Value} {l : List Itm} (h : RitN w u l) : u.oneCell' = true := by
  rcases h with ⟨rfl, -⟩ | ⟨g, cap, r, rfl, -⟩ <;> rfl

set_option maxHeartbeats 4000000 in
theorem rits_any (w : World) (v : Value) (Ls : List (List Itm)) (h : Lsts w v Ls) (hl : Ls.length ≤ 50000) (ht : ∀ L ∈ Ls, L.length ≤ 50000) :
    Calls Try.prog 14 #[v] w fun e w' => ∃ u, e = .returned u ∧ Old w w' ∧ Lsts w' u Ls := by
  obtain ⟨A, cap, rfl, hc⟩ := h.form
  have HI := Lib.hid h
  have HT := Lib.hid ht
  clear h ht
  go_enter Try.func14, Try.ntmps14
  have HR0 : Hid ((w.alloc (.cells #[] 40)).ownsRow w.heap.size 40 1 (.slice (some ⟨w.heap.size, 0, none⟩) 0 0) 0 []) := Lib.hid ⟨rfl, .inr ⟨w.heap.size, 0, #[], rfl, Nat.le_refl _, new_bk _ _ _, Nat.le_refl _, by simp, rfl, rfl⟩⟩
  go_wp2_with fail
  go_loopw [3, 4] (fun ov iv wr => ∃ (k : Nat) (A' : Option Addr) (c' : Nat), ov = .slice A' k c' ∧ iv = .int .i64 k ∧ k ≤ Ls.length ∧ Old w wr ∧ Hid (∃ vs, wr.ownsRow w.heap.size 40 1 (.slice A' k c') k vs ∧ vs.length = k ∧ ∀ i L, i < k → Ls[i]? = some L → ∃ u, vs[i]? = some u ∧ RitN wr u L)) (fun _ iv _ => Ls.length - (intOf iv).toNat)
  case atStart => exact ⟨0, _, _, rfl, rfl, Nat.zero_le _, old_alloc _ _, Lib.hid ⟨[], HR0.out, rfl, fun i L hi => absurd hi (by omega)⟩⟩
  case round =>
    obtain ⟨k, A', c', rfl, rfl, hk, o1, HV⟩ := hrel
    by_cases hlt : k < Ls.length
    · obtain ⟨L, HX⟩ : ∃ L, Hid (Ls[k]? = some L) := ⟨Ls[k], Lib.hid (List.getElem?_eq_getElem hlt)⟩
      obtain ⟨b, off, u, rfl, hu, hit⟩ := (HI.out.old o1).at_ HX.out
      have C := its_any wr u L hit (HT.out L (List.mem_of_getElem? HX.out))
      obtain ⟨A1, c1, rfl, -⟩ := hit.form
      clear hit
      go_wp2_with fail
      refine C.mono ?_
      clear C hu
      rintro e w2 ⟨u2, rfl, o2, hown⟩
      obtain ⟨vs, q1, q2, q3⟩ := HV.out
      have hn := RitN.of hown
      obtain ⟨A2, n2, c2, rfl⟩ : ∃ A2 n2 c2, u2 = .slice A2 n2 c2 := by
        rcases hn with ⟨rfl, -⟩ | ⟨g, cap, r, rfl, -⟩ <;> exact ⟨_, _, _, rfl⟩
      have oa : Old w (w2.alloc (.cells #[.slice A2 n2 c2] 40)) := (o1.tr o2).al _
      have ob : Old wr (w2.alloc (.cells #[.slice A2 n2 c2] 40)) := o2.al _
      have hrw := row_old q1 ob
      have HU := Lib.hid (And.intro (hn.old (old_alloc w2 (.cells #[.slice A2 n2 c2] 40))) (And.intro ob (And.intro q2 (And.intro q3 hrw))))
      clear hown hn ob q1 q2 q3
      go_wp2_with (at_builtin; refine wp_row rfl (.tmp 12) (.tmp 18) rfl (W0 := w) oa _ vs k rfl hrw _ rfl _ 1 rfl (new_bk _ _ _) (by omega) ?_; intro v8 w8 n8 o8 g8; refine Hid.out ?_)
      have HG : Hid (∃ vs, w8.ownsRow w.heap.size 40 1 v8 (k + 1) vs ∧ vs.length = k + 1 ∧ ∀ i L, i < k + 1 → Ls[i]? = some L → ∃ u, vs[i]? = some u ∧ RitN w8 u L) := Lib.hid (by
        obtain ⟨hn, ob, q2, q3, hrw⟩ := HU.out
        refine ⟨_, n8, by simp [q2], fun i M hi hM => ?_⟩
        by_cases h : i < k
        · obtain ⟨u, e1, e2⟩ := q3 i M h hM
          exact ⟨u, by rw [List.getElem?_append_left (by omega)]; exact e1, (e2.old ob).grown hrw g8⟩
        · obtain rfl : i = k := by omega
          have : M = L := by have := HX.out; rw [hM] at this; injection this
          subst this
          exact ⟨_, by rw [← q2]; simp, hn.grown hrw g8⟩)
      obtain ⟨A8, c8, rfl⟩ := row_sl n8
      clear n8 g8 HU HV HX hrw oa
      refine Lib.hid ?_
      go_wp2
      go_round
      case rel => exact ⟨k + 1, A8, c8, rfl, by go_num, by omega, o8, HG⟩
      case measure => simp [intOf]; omega
    · obtain rfl : k = Ls.length := by omega
      go_wp2
      go_ret
      refine ⟨_, rfl, o1, ?_⟩
      obtain ⟨vs, q1, q2, q3⟩ := HV.out
      rcases q1.2 with ⟨e, h0⟩ | ⟨g, cap', cur, e, hb, hg, hnc, hcm, hcs, htake⟩
      · exact .inl ⟨e, List.eq_nil_of_length_eq_zero h0⟩
      · injection e with e1 e2 e3
        subst e1 e3
        refine .inr ⟨⟨g, 0, none⟩, _, rfl, hnc, fun _ => ⟨g, 0, rfl, fun i L hL => ?_⟩⟩
        obtain ⟨u, e1, e2⟩ := q3 i L (List.getElem?_eq_some_iff.1 hL).1 hL
        have hcl := World.ownsRow.cells q1 (g := g) rfl i _ e1
        rw [Addr.add_lit] at hcl
        exact ⟨u, hcl, e2.its⟩
end Go.Proofs.Ytbccpplpfcfboaa
