/-
  MemOrder: whatever cells and whatever number come in, the law answers true, and leaves all as it was. No conditions.
-/
import Derived.Test.YthanenblcplbhaaMOwn
import Derived.Test.YthanenblcplbhaaCLft
namespace Go.Proofs.Ythanenblcplbhaa
set_option maxRecDepth 100000
open Go.ChangeShapes Go.WideShapes Go.ChangeAt Go.RowKit Go.Joins Go.Deep

theorem Tbl.keep {W W' : World} {tb : Nat} {t : BT} (h : Tbl W tb t) (k : ∀ i ∈ tb :: t.bls, W'.heap[i]? = W.heap[i]?) : Tbl W' tb t :=
  ⟨h.box.imp fun _ ⟨a, b⟩ => ⟨(k tb (by simp)).trans a, b.keep fun i hi => k i (by simp [hi])⟩, h.nd, h.up, h.may⟩
/-- Cells appended to own ones: a table stays. -/
theorem Ow.grown {w W W' : World} {tb : Nat} {t : BT} {b : Nat} {v : Value} {L : List Cel} (h : Ow w W tb t) (hv : OwnC W b v L) (hg : W.grownBy W' v.ownBlock) (o : Old w W') : Ow w W' tb t := by
  refine ⟨h.tbl.keep fun i hi => ?_, h.new_, o⟩
  have hty : ∃ ty cs, Bk W i ty cs ∧ ty ≠ 31 := by
    obtain ⟨p, hb, ht⟩ := h.tbl.box
    rcases List.mem_cons.1 hi with rfl | hi
    · exact ⟨_, _, hb, by decide⟩
    · obtain ⟨cs, hc⟩ := ht.ty i hi
      exact ⟨_, _, hc, by decide⟩
  obtain ⟨ty, cs, hb, hne⟩ := hty
  refine hg.block i hb.lt fun e => ?_
  obtain ⟨-, cs', hc⟩ := hv.blk e.symm
  exact hne (hb.uniq hc)
/-- Two tables that a law has made: no block is both's. -/
structure Two (w W : World) (ta : Nat) (a : BT) (tb : Nat) (b : BT) : Prop where
  oa : Ow w W ta a
  ob : Ow w W tb b
  ap : ∀ i ∈ ta :: a.bls, i ∉ tb :: b.bls
theorem Tbl.low {W : World} {tb : Nat} {t : BT} (h : Tbl W tb t) : ∀ i ∈ tb :: t.bls, i < W.heap.size := fun i hi => by
  obtain ⟨p, hb, ht⟩ := h.box
  rcases List.mem_cons.1 hi with rfl | hi
  · exact hb.lt
  · exact ht.lt i hi
theorem Two.old {w W W' : World} {ta tb : Nat} {a b : BT} (h : Two w W ta a tb b) (o : Old W W') : Two w W' ta a tb b := ⟨h.oa.old o, h.ob.old o, h.ap⟩
theorem Two.grown {w W W' : World} {ta tb : Nat} {a b : BT} {s : Nat} {v : Value} {L : List Cel} (h : Two w W ta a tb b) (hv : OwnC W s v L) (hg : W.grownBy W' v.ownBlock) (o : Old w W') : Two w W' ta a tb b :=
  ⟨h.oa.grown hv hg o, h.ob.grown hv hg o, h.ap⟩
theorem Two.puta {w W W' : World} {ta tb : Nat} {a a' b : BT} (h : Two w W ta a tb b) (ha : Ow w W' ta a') (hn : ∀ i ∈ a'.bls, i ∈ a.bls ∨ W.heap.size ≤ i) (k : Buts (ta :: a.bls) W W') : Two w W' ta a' tb b := by
  refine ⟨ha, ⟨h.ob.tbl.keep fun i hi => k.block i (h.ob.tbl.low i hi) fun hm => h.ap i hm hi, h.ob.new_, ha.od⟩, fun i hi hb => ?_⟩
  rcases List.mem_cons.1 hi with rfl | hi
  · exact h.ap i (by simp) hb
  · rcases hn i hi with h1 | h1
    · exact h.ap i (by simp [h1]) hb
    · have := h.ob.tbl.low i hb; omega
theorem Two.putb {w W W' : World} {ta tb : Nat} {a b b' : BT} (h : Two w W ta a tb b) (hb : Ow w W' tb b') (hn : ∀ i ∈ b'.bls, i ∈ b.bls ∨ W.heap.size ≤ i) (k : Buts (tb :: b.bls) W W') : Two w W' ta a tb b' := by
  refine ⟨⟨h.oa.tbl.keep fun i hi => k.block i (h.oa.tbl.low i hi) (h.ap i hi), h.oa.new_, hb.od⟩, hb, fun i hi hm => ?_⟩
  rcases List.mem_cons.1 hm with rfl | hm
  · exact h.ap i hi (by simp)
  · rcases hn i hm with h1 | h1
    · exact h.ap i hi (by simp [h1])
    · have := h.oa.tbl.low i hi; omega
theorem one_celB {w : World} {g : Nat} {x : Cel} (h : Bk w g 31 (cells x)) : Cels w (.slice (some ⟨g, 0, none⟩) 1 1) [x] := by
  refine .inr ⟨⟨g, 0, none⟩, 1, rfl, Nat.le_refl _, fun _ => ⟨g, 0, rfl, fun i c hc => ?_⟩⟩
  cases i with
  | zero =>
    simp only [List.getElem?_cons_zero, Option.some.injEq] at hc
    subst hc
    exact ⟨h.cell 0, h.cell 1, h.cell 2, h.cell 3, h.cell 4, h.cell 5⟩
  | succ i => simp at hc
/-- A cell without a value, that is not gone. -/
def bare (c : Cel) : Cel := { c with val := [], del := false }
theorem bare_ok {c : Cel} (h : c.ok) : (bare c).ok := h
theorem bare_eq {x y : Cel} (hx : x.val = [] ∧ x.del = false) (hy : y.val = [] ∧ y.del = false) (h : cmpC x y = 0) : x = y := by
  obtain ⟨h1, h2, h3, h4⟩ := (cmpC_zero x y).1 h
  obtain ⟨a, b, c, d, e, f⟩ := x
  obtain ⟨a', b', c', d', e', f'⟩ := y
  simp only at *
  obtain ⟨rfl, rfl⟩ := hx
  obtain ⟨rfl, rfl⟩ := hy
  subst h1 h2 h3 h4
  rfl
theorem up_same : ∀ {L M : List Cel}, Up L → Up M → (∀ c, c ∈ L ↔ c ∈ M) → L = M
  | [], [], _, _, _ => rfl
  | [], y :: M, _, _, h => by have := (h y).2 (by simp); cases this
  | x :: L, [], _, _, h => by have := (h x).1 (by simp); cases this
  | x :: L, y :: M, hL, hM, h => by
    obtain ⟨l1, l2⟩ := List.pairwise_cons.1 hL
    obtain ⟨m1, m2⟩ := List.pairwise_cons.1 hM
    have hxy : x = y := by
      rcases List.mem_cons.1 ((h x).1 (by simp)) with e | hx
      · exact e
      · rcases List.mem_cons.1 ((h y).2 (by simp)) with e | hy
        · exact e.symm
        · have a := m1 x hx
          have b := l1 y hy
          have := cmpC_neg x y
          omega
    subst hxy
    have hn : ∀ {K : List Cel}, (∀ d ∈ K, cmpC x d = -1) → x ∉ K := fun hk hm => by
      have a := hk x hm
      have := cmpC_refl x
      omega
    rw [up_same l2 m2 fun c => ⟨fun hc => ?_, fun hc => ?_⟩]
    · rcases List.mem_cons.1 ((h c).1 (by simp [hc])) with e | hm
      · subst e; exact absurd hc (hn l1)
      · exact hm
    · rcases List.mem_cons.1 ((h c).2 (by simp [hc])) with e | hm
      · subst e; exact absurd hc (hn m1)
      · exact hm
theorem up_rising : ∀ {L : List Cel}, Up L → rising L = true
  | [], _ => rfl
  | [_], _ => rfl
  | x :: y :: L, h => by
    obtain ⟨h1, h2⟩ := List.pairwise_cons.1 h
    have := h1 y (by simp)
    have ih := up_rising h2
    simp only [rising, ih, Bool.and_true]
    simp
    omega
theorem putL_mem {c d : Cel} {L : List Cel} (h : d ∈ putL c L) : d = c ∨ d ∈ L := by
  unfold putL at h
  split at h
  · exact List.mem_cons.1 ((lput_perm c L).mem_iff.1 h)
  · exact .inr h
theorem putL_sub {c d : Cel} {L : List Cel} (h : d ∈ L) : d ∈ putL c L := by
  unfold putL
  split
  · exact (lput_perm c L).mem_iff.2 (by simp [h])
  · exact h
/-- What was put is there. -/
theorem putL_has {x : Cel} {L : List Cel} (hm : mayB x = true) (hx : x.val = [] ∧ x.del = false) (hL : ∀ d ∈ L, d.val = [] ∧ d.del = false) : x ∈ putL x L := by
  unfold putL
  split
  · exact (lput_perm x L).mem_iff.2 (by simp)
  · rename_i h
    unfold putE at h
    rw [if_neg (by rw [hm]; decide)] at h
    split at h
    · rename_i ha
      obtain ⟨d, hd, hz⟩ := List.any_eq_true.1 ha
      rw [← bare_eq (hL d hd) hx (by simpa using hz)]
      exact hd
    · exact absurd rfl h

/-- Whoever turns in a ring comes by each place. -/
theorem turn_at {n m i : Nat} (hi : i < n) : ∃ j, j < n ∧ (j + m) % n = i := by
  have h1 : m % n < n := Nat.mod_lt _ (by omega)
  have h2 := Nat.div_add_mod m n
  rcases Nat.lt_or_ge i (m % n) with h | h
  · refine ⟨i + n - m % n, by omega, ?_⟩
    rw [show i + n - m % n + m = i + n * (m / n + 1) by rw [Nat.mul_add, Nat.mul_one]; omega, Nat.add_mul_mod_self_left, Nat.mod_eq_of_lt hi]
  · refine ⟨i - m % n, by omega, ?_⟩
    rw [show i - m % n + m = i + n * (m / n) by omega, Nat.add_mul_mod_self_left, Nat.mod_eq_of_lt hi]
set_option maxHeartbeats 32000000 in
theorem law_order (v : Value) (l : List Cel) (m : Nat) (w : World) (h : Cels w v l) (hl : l.length ≤ maxLen) (hok : ∀ c ∈ l, c.ok) (hm : m < 256) :
    Calls Try.prog 4 #[v, .int .u8 (m : Int)] w fun e w' => e = .returned (.bool true) ∧ Old w w' := by
  obtain ⟨A, cap, rfl, hc⟩ := h.form
  have CB := Lib.hid (bounded_any w _ l h hl)
  have HI := Lib.hid h
  have HOK := Lib.hid hok
  clear h hl hok
  go_enter Try.func4, Try.ntmps4
  go_wp2_with fail
  refine CB.out.mono ?_
  rintro e w1' ⟨rfl, hw1⟩
  have hw1' := hw1.symm
  subst hw1'
  clear hw1 CB
  cases hbd : boundedL l with
  | false =>
    go_wp2_with fail
    refine (shown_any _).mono ?_
    rintro e w2 ⟨rfl, o2⟩
    go_wp2
    go_ret
    exact ⟨rfl, o2⟩
  | true =>
    have h80 := bounded_len hbd
    clear hbd
    go_wp2_with fail
    refine (shown_any _).mono ?_
    rintro e w2 ⟨rfl, o2⟩
    go_wp2_with fail
    refine (new_any w2).mono ?_
    rintro e w3 ⟨rfl, h3, hlt3, o3⟩
    have HA := Lib.hid (show Ow w w3 w2.heap.size .leaf from ⟨h3, by simp [BT.bls]; exact o2.size, o2.tr o3⟩)
    clear h3 o3 o2
    generalize w2.heap.size = ta at HA hlt3 ⊢
    clear w2
    go_wp2_with fail
    refine (new_any w3).mono ?_
    rintro e w4 ⟨rfl, h4, hlt4, o4⟩
    have HT := Lib.hid (show Two w w4 ta .leaf w3.heap.size .leaf from ⟨HA.out.old o4, ⟨h4, by simp [BT.bls]; exact HA.out.od.size, HA.out.od.tr o4⟩, fun i hi hb => by simp [BT.bls] at hi hb; omega⟩)
    clear h4 hlt4 o4 HA hlt3
    generalize w3.heap.size = tb at HT ⊢
    clear w3
    have oA := old_alloc w4 (.cells #[] 31)
    have HTA := Lib.hid (HT.out.old oA)
    have HG := Lib.hid (show OwnC (w4.alloc (.cells #[] 31)) w.heap.size (.slice (some ⟨w4.heap.size, 0, none⟩) 0 0) [] from OwnC.empty (new_bk w4 31 #[]) HT.out.oa.od.size)
    clear HT oA
    go_wp2_with fail
    go_loopw [7, 8] (fun gv iv wr => ∃ (k : Nat) (t : BT) (G : List Cel) (av : Value), iv = .int .i64 (k : Int) ∧ av = gv ∧ k ≤ l.length ∧ Hid (Two w wr ta t tb .leaf) ∧ Hid (G.Perm t.ino ∧ (∀ c ∈ G, c.val = [] ∧ c.del = false) ∧ G.length ≤ k) ∧ Hid (OwnC wr w.heap.size av G)) (fun _ iv _ => l.length - (intOf iv).toNat)
    case atStart => exact ⟨0, .leaf, [], _, rfl, rfl, Nat.zero_le _, HTA, Lib.hid ⟨List.Perm.refl _, by simp, Nat.le_refl _⟩, HG⟩
    case round =>
      clear HTA HG
      obtain ⟨k, t, G, av, rfl, rfl, hk, HT, HP, HG⟩ := hrel
      by_cases hlt : k < l.length
      · obtain ⟨c, HX⟩ : ∃ c, Hid (l[k]? = some c) := ⟨l[k], Lib.hid (List.getElem?_eq_getElem hlt)⟩
        obtain ⟨b, off, rfl, hx⟩ := (HI.out.old HT.out.oa.od).at_ HX.out
        obtain ⟨x0, x1, x2, x3, x4, x5⟩ := hx.held
        have i1 : (0 : Int) ≤ (k : Int) := by omega
        have i2 : (k : Int) < (l.length : Int) := by omega
        have htl : t.ino.length ≤ 80 := by rw [← HP.out.1.length_eq]; have := HP.out.2.2; omega
        clear hx
        have oX := old_alloc wr (.cells (cells (bare c)) 31)
        have HTX := Lib.hid (HT.out.old oX)
        have HGX := Lib.hid (HG.out.old oX)
        have CP := Lib.hid ((put_any ta t (bare c) _ HTX.out.oa.tbl (bare_ok (HOK.out c (List.mem_of_getElem? HX.out))) (by omega)).mono fun e w' hp => HTX.out.oa.put hp)
        have HXB := Lib.hid (new_bk wr 31 (cells (bare c)))
        clear oX
        go_wp2_with fail
        refine CP.out.mono ?_
        rintro e w5 ⟨rfl, t5, h5, e5, n5, b5⟩
        have HT5 := Lib.hid (HTX.out.puta h5 n5 b5)
        have HG5 := Lib.hid (HGX.out.buts HTX.out.oa.tbl b5)
        have hxb := b5.other HTX.out.oa.tbl HXB.out (by decide) (by decide)
        obtain ⟨A3, n3, c3, rfl⟩ := HG5.out.slice
        have y0 : w5.cell? ⟨wr.heap.size, 0, none⟩ = some (.string (B c.row)) := hxb.cell 0
        have y1 : w5.cell? ⟨wr.heap.size, 1, none⟩ = some (.string (B c.col)) := hxb.cell 1
        have y2 : w5.cell? ⟨wr.heap.size, 2, none⟩ = some (.int .u64 c.ts) := hxb.cell 2
        have y3 : w5.cell? ⟨wr.heap.size, 3, none⟩ = some (.int .u64 c.seq) := hxb.cell 3
        have y4 : w5.cell? ⟨wr.heap.size, 4, none⟩ = some (.bool false) := hxb.cell 4
        have y5 : w5.cell? ⟨wr.heap.size, 5, none⟩ = some (.string ⟨#[]⟩) := hxb.cell 5
        have HE5 := Lib.hid e5
        clear CP h5 n5 b5 e5 hxb x0 x1 x2 x3 x4 x5 HXB HTX HGX HT HG
        by_cases hz : putE (bare c) t.ino = 0
        · have hbe : (putE (bare c) t.ino == 0) = true := by simpa using hz
          have HP5 := Lib.hid (show (G ++ [bare c]).Perm t5.ino ∧ (∀ d ∈ G ++ [bare c], d.val = [] ∧ d.del = false) ∧ (G ++ [bare c]).length ≤ k + 1 by
            refine ⟨?_, fun d hd => ?_, ?_⟩
            · rw [HE5.out]
              unfold putL
              rw [if_pos hz]
              exact (List.perm_append_singleton _ _).trans ((HP.out.1.cons _).trans (lput_perm _ _).symm)
            · rcases List.mem_append.1 hd with hd | hd
              · exact HP.out.2.1 d hd
              · rw [List.mem_singleton.1 hd]; exact ⟨rfl, rfl⟩
            · rw [List.length_append, List.length_singleton]; have := HP.out.2.2; omega)
          have hgl : G.length ≤ 80 := by have := HP.out.2.2; omega
          have oY := old_alloc w5 (.cells (cells (bare c)) 31)
          have HG6 := Lib.hid (HG5.out.old oY)
          have HT6 := Lib.hid (HT5.out.old oY)
          have HC6 := Lib.hid (one_celB (new_bk w5 31 (cells (bare c))))
          clear hz HP HE5 HG5 HT5 oY
          go_wp2_with (first
            | (at_builtin; refine wp_cels rfl (.tmp 46) (.tmp 48) rfl (W0 := w) HT6.out.oa.od _ G [bare c] rfl HG6.out _ rfl HC6.out (by rw [List.length_singleton]; omega) ?_; intro v8 w8 n8 o8 f8 r8; refine Hid.out ?_)
            | fail)
          have HT8 := Lib.hid (HT6.out.grown HG6.out f8 o8)
          have HG8 := Lib.hid n8
          clear n8 o8 f8 r8 HG6 HT6 HC6 y0 y1 y2 y3 y4 y5
          refine Lib.hid ?_
          go_wp2
          go_roundw
          case rel => exact ⟨k + 1, t5, G ++ [bare c], _, by go_num, rfl, by omega, HT8, HP5, HG8⟩
          case measure => simp [intOf]; omega
        · have hbe : (putE (bare c) t.ino == 0) = false := by simpa using hz
          have HP5 := Lib.hid (show G.Perm t5.ino ∧ (∀ d ∈ G, d.val = [] ∧ d.del = false) ∧ G.length ≤ k + 1 by
            refine ⟨?_, HP.out.2.1, by have := HP.out.2.2; omega⟩
            rw [HE5.out]
            unfold putL
            rw [if_neg hz]
            exact HP.out.1)
          clear hz HP HE5 y0 y1 y2 y3 y4 y5
          go_wp2
          go_roundw
          case rel => exact ⟨k + 1, t5, G, _, by go_num, rfl, by omega, HT5, HP5, HG5⟩
          case measure => simp [intOf]; omega
      · obtain rfl : k = l.length := by omega
        obtain ⟨Ag, cg, rfl, -⟩ := HG.out.cels.form
        have hgl : G.length ≤ 80 := by have := HP.out.2.2; omega
        have hw1 : IntKind.i64.wrap ((G.length : Int) - 1) = (G.length : Int) - 1 := by rw [IntKind.wrap_i64]; omega
        have HPM := Lib.hid HP.out.1
        have HBR := Lib.hid HP.out.2.1
        have H0 := Lib.hid (And.intro HT.out HG.out)
        clear HP HT HG
        go_wp2_with fail
        go_loopw [10] (fun iv wq => ∃ (z : Int) (b : BT), iv = .int .i64 z ∧ -2 ≤ z ∧ z < (G.length : Int) ∧ Hid (Two w wq ta t tb b ∧ OwnC wq w.heap.size (.slice Ag G.length cg) G) ∧ Hid ((∀ d ∈ b.ino, d ∈ G) ∧ (b.ino.length : Int) ≤ (G.length : Int) - z)) (fun iv _ => (intOf iv + 2).toNat)
        case atStart => exact ⟨_, .leaf, rfl, by omega, by omega, H0, Lib.hid ⟨by simp [BT.ino], by simp [BT.ino]; omega⟩⟩
        case round =>
          clear H0
          obtain ⟨z, b, rfl, hz1, hz2, HT, HB⟩ := hrel
          by_cases hz : 0 ≤ z
          · obtain ⟨n, rfl⟩ := Int.eq_ofNat_of_zero_le hz
            obtain ⟨x, HX⟩ : ∃ x, Hid (G[n]? = some x) := ⟨G[n]'(by omega), Lib.hid (List.getElem?_eq_getElem (by omega))⟩
            obtain ⟨bb, off, rfl, hx⟩ := HT.out.2.cels.at_ HX.out
            obtain ⟨x0, x1, x2, x3, x4, x5⟩ := hx.held
            have hbl : b.ino.length ≤ 1000 := by have := HB.out.2; omega
            have hmx : x ∈ t.ino := HPM.out.mem_iff.1 (List.mem_of_getElem? HX.out)
            have CP := Lib.hid ((put_any tb b x _ HT.out.1.ob.tbl (HT.out.1.oa.tbl.may x hmx).2 (by omega)).mono fun e w' hp => HT.out.1.ob.put hp)
            have hw2 : IntKind.i64.wrap ((n : Int) - 2) = (n : Int) - 2 := by rw [IntKind.wrap_i64]; omega
            clear hx hmx
            go_wp2_with fail
            refine CP.out.mono ?_
            rintro e w5 ⟨rfl, t5, h5, e5, n5, b5⟩
            have HT5 := Lib.hid (And.intro (HT.out.1.putb h5 n5 b5) (HT.out.2.buts HT.out.1.ob.tbl b5))
            have HB5 := Lib.hid (show (∀ d ∈ t5.ino, d ∈ G) ∧ (t5.ino.length : Int) ≤ (G.length : Int) - ((n : Int) - 2) by
              rw [e5]
              refine ⟨fun d hd => ?_, ?_⟩
              · rcases putL_mem hd with rfl | hd
                · exact List.mem_of_getElem? HX.out
                · exact HB.out.1 d hd
              · have := HB.out.2
                have := putL_len x b.ino
                omega)
            clear CP h5 e5 n5 b5 x0 x1 x2 x3 x4 x5 HT HB
            go_wp2
            go_roundw
            case rel => exact ⟨(n : Int) - 2, t5, by go_num, by omega, by omega, HT5, HB5⟩
            case measure => simp [intOf]; omega
          · have hbl : b.ino.length ≤ 82 := by have := HB.out.2; omega
            have HB0 := Lib.hid (show (∀ d ∈ b.ino, d ∈ G) ∧ (∀ j x, j < 0 → G[(j + m) % G.length]? = some x → x ∈ b.ino) ∧ b.ino.length ≤ 82 + 0 from ⟨HB.out.1, fun j x hj => by omega, by omega⟩)
            have hz3 : decide ((0 : Int) ≤ z) = false := decide_eq_false hz
            clear HB
            go_wp2_with fail
            go_loopw [11] (fun iv wq => ∃ (k : Nat) (b : BT), iv = .int .i64 (k : Int) ∧ k ≤ G.length ∧ Hid (Two w wq ta t tb b ∧ OwnC wq w.heap.size (.slice Ag G.length cg) G) ∧ Hid ((∀ d ∈ b.ino, d ∈ G) ∧ (∀ j x, j < k → G[(j + m) % G.length]? = some x → x ∈ b.ino) ∧ b.ino.length ≤ 82 + k)) (fun iv _ => G.length - (intOf iv).toNat)
            case atStart => exact ⟨0, b, rfl, Nat.zero_le _, HT, HB0⟩
            case round =>
              clear HT HB0
              obtain ⟨k, b, rfl, hk, HT, HB⟩ := hrel
              by_cases hlt : k < G.length
              · have hr : (k + m) % G.length < G.length := Nat.mod_lt _ (by omega)
                have hw3 : IntKind.i64.wrap ((k : Int) + (m : Int)) = (k : Int) + (m : Int) := by rw [IntKind.wrap_i64]; omega
                have hw4 : IntKind.i64.wrap (m : Int) = (m : Int) := by rw [IntKind.wrap_i64]; omega
                have hmod : ((k : Int) + (m : Int)) % (G.length : Int) = (((k + m) % G.length : Nat) : Int) := by rw [Int.natCast_emod, Int.natCast_add]
                have hmod2 : ((k : Int) + (m : Int)).tmod (G.length : Int) = (((k + m) % G.length : Nat) : Int) := by rw [Int.tmod_eq_emod_of_nonneg (by omega), hmod]
                have hne : ¬ (G.length : Int) = 0 := by omega
                have hne2 : ((G.length : Int) == 0) = false := by rw [beq_eq_false_iff_ne]; omega
                have hdiv : Op.intDiv .rem .i64 ((k : Int) + (m : Int)) (G.length : Int) = pure (.int .i64 (((k + m) % G.length : Nat) : Int)) := by
                  unfold Op.intDiv
                  rw [if_neg hne]
                  simp only [hmod2]
                obtain ⟨x, HX⟩ : ∃ x, Hid (G[(k + m) % G.length]? = some x) := ⟨_, Lib.hid (List.getElem?_eq_getElem hr)⟩
                obtain ⟨r, HRR⟩ : ∃ r, Hid (r = (k + m) % G.length) := ⟨_, Lib.hid rfl⟩
                rw [← HRR.out] at HX hr hdiv hmod
                obtain ⟨bb, off, rfl, hx⟩ := HT.out.2.cels.at_ HX.out
                obtain ⟨x0, x1, x2, x3, x4, x5⟩ := hx.held
                have hbl : b.ino.length ≤ 1000 := by have := HB.out.2.2; omega
                have HMX := Lib.hid (HT.out.1.oa.tbl.may x (HPM.out.mem_iff.1 (List.mem_of_getElem? HX.out)))
                have CP := Lib.hid ((put_any tb b x _ HT.out.1.ob.tbl HMX.out.2 (by omega)).mono fun e w' hp => HT.out.1.ob.put hp)
                have i1 : (0 : Int) ≤ (r : Int) := by omega
                have i2 : (r : Int) < (G.length : Int) := by omega
                have i3 : (k : Int) < (G.length : Int) := by omega
                have hrr := HRR.out.symm
                clear hx hmod2
                go_wp2_with fail
                refine CP.out.mono ?_
                rintro e w5 ⟨rfl, t5, h5, e5, n5, b5⟩
                have HT5 := Lib.hid (And.intro (HT.out.1.putb h5 n5 b5) (HT.out.2.buts HT.out.1.ob.tbl b5))
                have HB5 := Lib.hid (show (∀ d ∈ t5.ino, d ∈ G) ∧ (∀ j y, j < k + 1 → G[(j + m) % G.length]? = some y → y ∈ t5.ino) ∧ t5.ino.length ≤ 82 + (k + 1) by
                  rw [e5]
                  refine ⟨fun d hd => ?_, fun j y hj hy => ?_, ?_⟩
                  · rcases putL_mem hd with rfl | hd
                    · exact List.mem_of_getElem? HX.out
                    · exact HB.out.1 d hd
                  · rcases Nat.lt_or_ge j k with h1 | h1
                    · exact putL_sub (HB.out.2.1 j y h1 hy)
                    · obtain rfl : j = k := by omega
                      rw [← HRR.out, HX.out] at hy
                      cases hy
                      exact putL_has HMX.out.1 (HBR.out x (List.mem_of_getElem? HX.out)) fun d hd => HBR.out d (HB.out.1 d hd)
                  · have := HB.out.2.2
                    have := putL_len x b.ino
                    omega)
                clear CP h5 e5 n5 b5 x0 x1 x2 x3 x4 x5 HT HB HMX hdiv hne hne2 hw3 hw4 hmod hrr
                go_wp2
                go_roundw
                case rel => exact ⟨k + 1, t5, by go_num, by omega, HT5, HB5⟩
                case measure => simp [intOf]; omega
              · obtain rfl : k = G.length := by omega
                have HEQ := Lib.hid (show b.ino = t.ino from up_same HT.out.1.ob.tbl.up HT.out.1.oa.tbl.up fun d => by
                  refine ⟨fun hd => HPM.out.mem_iff.1 (HB.out.1 d hd), fun hd => ?_⟩
                  obtain ⟨i, hi, he⟩ := List.getElem_of_mem (HPM.out.mem_iff.2 hd)
                  obtain ⟨j, hj, hji⟩ := turn_at (m := m) hi
                  exact HB.out.2.1 j d hj (by rw [hji, List.getElem?_eq_getElem hi, he]))
                have HLN := Lib.hid (show t.ino.length = G.length from HPM.out.length_eq.symm)
                have HUP := Lib.hid (up_rising HT.out.1.oa.tbl.up)
                have htl : t.ino.length ≤ 80 := by rw [HLN.out]; exact hgl
                have CC := Lib.hid (cells_any tb b wr HT.out.1.ob.tbl (by rw [HEQ.out]; omega))
                rw [HEQ.out] at CC
                have HTW := Lib.hid HT.out.1
                clear HT HB
                go_wp2_with fail
                refine CC.out.mono ?_
                rintro e w5 ⟨u5, rfl, n5, o5⟩
                obtain ⟨A5, c5, rfl, -⟩ := n5.cels.form
                have HT5 := Lib.hid (HTW.out.old o5)
                have HN5 := Lib.hid n5
                have CA := Lib.hid (cells_any ta t w5 HT5.out.oa.tbl (by omega))
                clear CC HTW n5 o5
                go_wp2_with fail
                refine CA.out.mono ?_
                rintro e w6 ⟨u6, rfl, n6, o6⟩
                obtain ⟨A6, c6, rfl, -⟩ := n6.cels.form
                have HT6 := Lib.hid (HT5.out.old o6)
                have HN6 := Lib.hid (HN5.out.old o6)
                have CE := Lib.hid (sameC_any w6 _ _ t.ino n6.cels HN6.out.cels (by omega))
                clear CA HT5 HN5 n6 o6
                go_wp2_with fail
                refine CE.out.mono ?_
                rintro e w7 ⟨rfl, o7⟩
                have HT7 := Lib.hid (HT6.out.old o7)
                have CR := Lib.hid (rising_at _ t.ino w7 (by omega) (HN6.out.old o7).cels)
                rw [HUP.out] at CR
                clear CE HT6 HN6 o7
                go_wp2_with fail
                refine CR.out.mono ?_
                rintro e w8 ⟨rfl, o8⟩
                have HT8 := Lib.hid (HT7.out.old o8)
                have CB1 := Lib.hid (bytes_any ta t w8 HT8.out.oa.tbl)
                have hlq : ((t.ino.length : Int) == (G.length : Int)) = true := by rw [HLN.out]; simp
                have hlq2 : (t.ino.length : Int) = (G.length : Int) := by rw [HLN.out]
                clear CR HT7 o8
                go_wp2_with fail
                refine CB1.out.mono ?_
                rintro e w9 ⟨rfl, o9⟩
                have HT9 := Lib.hid (HT8.out.old o9)
                have CB2 := Lib.hid (bytes_any tb b w9 HT9.out.ob.tbl)
                rw [HEQ.out] at CB2
                clear CB1 HT8 o9
                go_wp2_with fail
                refine CB2.out.mono ?_
                rintro e w10 ⟨rfl, o10⟩
                have o11 := HT9.out.oa.od.tr o10
                clear CB2 HT9 o10
                go_wp2
                go_ret
                exact ⟨rfl, o11⟩

set_option maxRecDepth 100000 in
theorem memOrder_lifted (os : Os) (started : os.Started) (H : Type) (enc : TypeId × Value → H) :
    ReturnsInHanded {} Try.checked os 4 .any (Rows.memOrderSpec.pre6 enc Try.prog Try.f4 Rows.memOrderRow.domain false) (Rows.memOrderSpec.post enc Try.prog Try.f4 false true false false) := by
  refine returnsInHanded_of_change_sized (C := Try.checked) Try.own started (by kernel_rfl) Try.func4
    (ChangeSpec.witness6 (enc := enc) (C := Try.checked) false ⟨#[], #[.slice none 0 0, .int .u8 0], []⟩ 8 (by kernel_rfl) (by kernel_rfl) (by kernel_rfl) (by kernel_rfl)) ?_
  intro W base args ds gs before hval0 hW hcnd hsz0 _
  have hval : ∀ (j : Nat) t v, Try.f4.params[j]? = some t → args[j]? = some v → Value.okWide Try.prog W .any base t v := hval0
  have hW' := hW
  obtain ⟨p, q, hA0, hV, rfl, hfz, hnd⟩ := hW
  have hA : DataW.TrodAll enc Try.prog W 0 (fun _ => true) true Try.f4.params.toList args.toList ds p := hA0
  have hsz : (DataW.weightsEach Try.prog (Try.f4.params.toList ++ Rows.memOrderSpec.plain.varTypes Try.prog) (ds ++ gs)).all (· ≤ reachBytes) = true := hsz0
  rw [Try.params4] at hA hval hsz
  obtain ⟨v0, v1, d0, d1, p0, p1, rfl, rfl, rfl, h0, h1⟩ := trodAll_two hA
  obtain ⟨rfl, rfl⟩ := trodVars_none hV
  have hlt : ∀ x ∈ p0 ++ (p1), x.block < W.heap.size := fun x hx => hW'.lt x (by simpa using hx)
  have k0 := h0
  have k1 := h1
  obtain ⟨a0, o0, m0, x0⟩ := open_cels (hval 0 22 v0 rfl rfl) h0
  obtain ⟨a1, rfl, o1⟩ := open_u8 (hval 1 5 v1 rfl rfl) h1
  clear hA0 hval0 hsz0
  refine (law_order v0 a0 a1 W o0 m0 x0 o1).mono fun e W' ⟨he, hb⟩ => ?_
  subst he
  refine ⟨_, rfl, _, _, _, [], p0 ++ (p1), [], hW', trodAll_mk1 (shut_bool Try.underlying4 _), ?_, rfl, hb.frame _, fun h => by cases h⟩
  have r0 := Below.trod Try.laidOut (by kernel_rfl) (of_decide_eq_true (by kernel_rfl)) k0 hb (fun x hx => hlt x (by simp [hx]))
  have r1 := Below.trod Try.laidOut (by kernel_rfl) (of_decide_eq_true (by kernel_rfl)) k1 hb (fun x hx => hlt x (by simp [hx]))
  exact trodAll_mk2 r0 r1

theorem memOrder_holds : Rows.MemOrderSaid :=
  OpenClaim.holds_of_wide 4 Try.f4 rfl rfl rfl rfl rfl rfl rfl ⟨rfl, rfl, rfl, rfl, rfl⟩ rfl rfl rfl rfl rfl (by kernel_rfl) Try.func4 (by kernel_rfl)
    (of_decide_eq_true (by kernel_rfl)) (by unfold Func.isWrapper; first | (rw [if_pos (by decide +kernel)]; kernel_rfl) | (rw [if_neg (by decide +kernel)]; exact ⟨rfl, rfl⟩))
    (fun os started H enc _ => memOrder_lifted os started H enc)
#print axioms memOrder_holds
end Go.Proofs.Ythanenblcplbhaa
