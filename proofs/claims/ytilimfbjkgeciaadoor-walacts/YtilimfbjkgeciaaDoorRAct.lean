/-
  WalActs: whatever acts come in, the law answers true, and leaves all as it was. Condition: the table is laid as the program's text lays it.
-/
import Derived.Test.YtilimfbjkgeciaaDoorRK0
import Derived.Test.YtilimfbjkgeciaaDoorRK2
import Derived.Test.YtilimfbjkgeciaaDoorRK4
import Derived.Test.YtilimfbjkgeciaaDoorRK5
import Derived.Test.YtilimfbjkgeciaaDoorRK8
import Derived.StillTailTactics
import Derived.Deep.CutBlock
import Derived.Deep.CutRange
import Derived.Deep.RegionHeldLaw
import Derived.Laws.Small
namespace Go.Proofs.YtilimfbjkgeciaaDoor
open Go.ChangeShapes Go.WideShapes Go.ChangeAt Go.RowKit Go.Joins Go.Deep Go.Maps Go.Shelf
set_option maxRecDepth 100000

set_option maxHeartbeats 64000000 in
theorem law_acts (cu : Nat) (hcu : cu < 65536) (l : List Ac) (A : Option Addr) (cap : Nat) (hcap : cap ≤ maxLen) (w : World) (ht : Tab w) (hS : Acts w A cap l) :
    Calls Tryd.prog 3 #[.int .u16 cu, .slice A l.length cap] w fun e w' => e = .returned (.bool true) ∧ Old w w' := by
  have hlc := hS.1
  have hc2 : cap ≤ 2 ^ 63 - 1 := hcap
  by_cases hn : l.length ≤ 60
  case neg =>
    have d1 : decide ((60 : Int) < (l.length : Int)) = true := by simp; omega
    go_enter Tryd.func3, Tryd.ntmps3
    go_wp2_with (go_at_call 8; refine (shown_any _ ht).mono ?_; rintro e w1 ⟨rfl, k1⟩)
    go_ret
    exact ⟨rfl, k1⟩
  have d1 : decide ((60 : Int) < (l.length : Int)) = false := by simp; omega
  have hrJ : ((cu : Int) % 2000) = ((cu % 2000 : Nat) : Int) := by omega
  have hr2 : cu % 2000 ≤ 2000 := by omega
  go_enter Tryd.func3, Tryd.ntmps3
  go_wp2_with fail
  refine (shown_any _ ht).mono ?_
  rintro e w1 ⟨rfl, k1⟩
  clear d1
  generalize cu % 2000 = C at *
  have hC : (C : Int) ≤ 9223372036854775807 := by omega
  have HN := new_lw C (by omega) k1
  clear k1
  go_wp2_with fail
  refine HN.mono ?_
  clear HN
  rintro e w2 ⟨d, rfl, h1, -⟩
  have o3 := old_alloc w2 (.cells (rcs (.slice none 0 0) ⟨C, [], true, 0, 0⟩) 29)
  have b3 := new_bk w2 29 (rcs (.slice none 0 0) ⟨C, [], true, 0, 0⟩)
  have hbr := h1.old.size
  have H := open_ok (x := logN) (h1.go o3) ht (by decide) (by show C ≤ 1000000; omega) (open_none nmL)
  clear h1 o3
  go_wp2_with fail
  refine H.mono ?_
  clear H
  generalize w2.heap.size = br at *
  rintro e w3 ⟨lb, A0, cap0, rfl, h3, kr, -, q1, -, q3, hS3, -⟩
  have b3 := kr _ _ _ (.inr (.inr (.inl rfl))) b3
  clear kr
  have y0 : w3.cell? ⟨br, 0, none⟩ = some (.int .i64 (C : Int)) := b3.at_ 0 rfl
  have y1 : w3.cell? ⟨br, 1, none⟩ = some (.slice none 0 0) := b3.at_ 1 rfl
  have y2 : w3.cell? ⟨br, 2, none⟩ = some (.bool false) := b3.at_ 2 rfl
  have y3 : w3.cell? ⟨br, 3, none⟩ = some (.int .i64 0) := b3.at_ 3 rfl
  have y4 : w3.cell? ⟨br, 4, none⟩ = some (.int .i64 0) := b3.at_ 4 rfl
  have hG0 : Good logN ⟨C, [], true, 0, 0⟩ := ⟨⟨Nat.zero_le _, Nat.zero_le _, fun f hf => by cases hf⟩, by show C ≤ 1000000; omega, Nat.zero_le _, .inl rfl⟩
  have hNO := nr_open ⟨C, [], true, 0, 0⟩ logN
  have hON : popen (nr ⟨C, [], true, 0, 0⟩) logN = (Ps C logN (puts []), [], 0) := open_none nmL
  rw [hON] at hNO
  have hGR := good_ropen hG0
  have HO := ropen_any none 0 ⟨C, [], true, 0, 0⟩ logN hG0 (by decide) w3 ⟨.inl ⟨rfl, rfl⟩, fun h => absurd rfl h⟩
  generalize ropen ⟨C, [], true, 0, 0⟩ logN = R at *
  obtain ⟨r0, T0, e0⟩ := R
  obtain ⟨hp0, hT0⟩ := Prod.mk.inj hNO
  obtain ⟨rfl, rfl⟩ := Prod.mk.inj hT0
  clear hNO hT0 hON hG0
  simp only at hp0 hGR
  rw [show Ps C logN [] = nr r0 from hp0] at h3
  have q3 : Lg w3 lb d logN 0 false := q3
  clear hp0
  go_wp2_with fail
  refine HO.mono ?_
  clear HO y0 y1 y2 y3 y4
  rintro e w4 ⟨A1, c1, hf, o4, ⟨-, TA, tc, rfl, hS4⟩ | ⟨hne, -⟩⟩
  case inr => exact absurd rfl hne
  obtain ⟨cap1, F1, up1, left1, keep1⟩ := r0
  have b4 := b3.old o4
  have l4 := h3.go o4
  have q4 := q3.old o4
  have hSA := hS3.old o4
  have hbl : w.heap.size ≤ w4.heap.size := l4.old.size
  have HH := Lib.hid (show _ ∧ _ ∧ _ ∧ _ ∧ _ ∧ _ ∧ _ ∧ _ from ⟨l4, q4, hf, b4, hSA, hS4, hbl, hGR⟩)
  have y0 : w4.cell? ⟨br, 0, none⟩ = some (.int .i64 (C : Int)) := b4.at_ 0 rfl
  have y1 : w4.cell? ⟨br, 1, none⟩ = some (.slice none 0 0) := b4.at_ 1 rfl
  have y2 : w4.cell? ⟨br, 2, none⟩ = some (.bool false) := b4.at_ 2 rfl
  have y3 : w4.cell? ⟨br, 3, none⟩ = some (.int .i64 0) := b4.at_ 3 rfl
  have y4 : w4.cell? ⟨br, 4, none⟩ = some (.int .i64 0) := b4.at_ 4 rfl
  have yf0 := b4.fr 0
  have yf1 := b4.fr 1
  have yf2 := b4.fr 2
  have yf3 := b4.fr 3
  have yf4 := b4.fr 4
  have hlt4 := b4.lt
  clear l4 q4 hf b4 hSA hS4 hGR h3 q3 hS3 b3 hrJ
  go_upto_region 7 with (fail)
  obtain ⟨l4, q4, hf, b4, -, -, -, hGR⟩ := HH.out
  clear HH y0 y1 y2 y3 y4 yf0 yf1 yf2 yf3 yf4 hlt4 hbl
  have hs := St.mk0 (r' := ⟨cap1, F1, up1, left1, keep1⟩) (rm := 0) (rd := false) l4 q4 hf b4 hbr q1
  clear l4 q4 hf b4 o4
  generalize ((((((w4.setCell ⟨br, 0, none⟩ (.int .i64 (cap1 : Int))).setCell ⟨br, 1, none⟩ (.slice A1 F1.length c1)).setCell ⟨br, 2, none⟩ (.bool (!up1))).setCell ⟨br, 3, none⟩ (.int .i64 (left1 : Int))).setCell ⟨br, 4, none⟩ (.int .i64 keep1)).alloc (.cells #[.string (B logN), .int .i64 0, .bool false] 36)) = w5 at *
  generalize w4.heap.size = bx at *
  have H := same_texts [] [] A0 TA cap0 tc (by decide) (by decide) w5 (strs_nil _ _ _) (strs_nil _ _ _) true rfl
  go_wp2_with fail
  refine H.mono ?_
  clear H
  rintro e w6 ⟨rfl, o6⟩
  have HI0 := Lib.hid (show St w w6 d lb br bx (nr ⟨cap1, F1, up1, left1, keep1⟩) 0 false ⟨cap1, F1, up1, left1, keep1⟩ A1 c1 ((0 : Nat) : Int) false ∧ Good logN ⟨cap1, F1, up1, left1, keep1⟩ ∧ 0 ≤ 1000000 + 10 * 0 from ⟨hs.old o6, hGR, Nat.zero_le _⟩)
  clear hs hGR o6 q1
  go_wp2_with fail
  go_loopw [7, 9, 12, 13] (fun wl _ _ i wr => ∃ (j lb m : Nat) (dead : Bool) (r : Pd) (A : Option Addr) (c : Nat), j ≤ l.length ∧ i = .int .i64 j ∧ wl = ptr lb ∧ Hid (St w wr d lb br bx (nr r) m dead r A c (m : Int) dead ∧ Good logN r ∧ m ≤ 1000000 + 10 * j)) (fun _ _ _ i _ => l.length - (intOf i).toNat)
  case atStart => exact ⟨0, lb, 0, false, _, A1, c1, Nat.zero_le _, rfl, rfl, HI0⟩
  case round =>
    clear HI0
    obtain ⟨j, lb, m, dead, r, A2, c2, hj, rfl, rfl, HI⟩ := hrel
    obtain ⟨h1, hG, hm⟩ := HI.out
    have HOLD := Lib.hid h1.lw.old
    clear HI
    by_cases hlt : j < l.length
    · obtain ⟨hok, bb, off, rfl, hac⟩ := hS.at_ j hlt
      have HAC := Lib.hid (fun (W : World) (o : Old w W) => hac.old o)
      clear hac
      generalize l[j] = x at *
      obtain ⟨kind, xn, xk, xt, xA, xc⟩ := x
      obtain ⟨hxn, hxS, hxc⟩ := hok
      simp only at hxS hxc hxn
      obtain ⟨c0, c1', c2', c3⟩ := HAC.out wr h1.lw.old
      simp only at c0 c1' c2' c3
      have HB := bounded_any ⟨kind, xn, xk, xt, xA, xc⟩ hxc wr (hxS.old h1.lw.old)
      simp only at HB
      cases hb : bnd xt with
      | false =>
        rw [hb] at HB
        have HSH := Lib.hid (fun (W : World) (o : Old wr W) => shown_any W (ht.old (h1.lw.old.tr o)))
        clear hxn
        go_wp2_with fail
        refine HB.mono ?_
        rintro e w4 ⟨rfl, o4⟩
        go_wp2_with fail
        refine (HSH.out _ o4).mono ?_
        rintro e w5 ⟨rfl, o5⟩
        go_wp2
        go_ret
        exact ⟨rfl, (h1.lw.old.tr o4).tr o5⟩
      | true =>
        rw [hb] at HB
        obtain ⟨hxl, hxs⟩ := bnd_yes hb
        have HXM := Lib.hid (show ∀ t ∈ xt, t.length ≤ 1000000 from fun t h => by have := hxs t h; omega)
        have HXN := Lib.hid hxn
        have HG := Lib.hid hG
        clear hb hxs hxn hG
        go_wp2_with fail
        refine HB.mono ?_
        rintro e w4 ⟨rfl, o4⟩
        clear HB
        have h4 := h1.old o4
        clear h1 c0 c1' c2' c3 o4
        obtain ⟨c0, c1', c2', c3⟩ := HAC.out w4 h4.lw.old
        simp only at c0 c1' c2' c3
        go_upto_block 2 with (fail)
        go_cut [7, 9, 12, 14, 15, 16, 17, 18, 19, 20] from 63 to 234 (fun wl e f _ _ _ _ _ _ _ wx => ∃ (lb m : Nat) (dead : Bool) (r : Pd) (A : Option Addr) (c : Nat) (y : Int), wl = ptr lb ∧ e = .int .i64 y ∧ f = .int .i64 y ∧ Hid (St w wx d lb br bx (nr r) m dead r A c (m : Int) dead ∧ Good logN r ∧ m ≤ 1000000 + 10 * (j + 1)))
        case first =>
          rename_i J0 K0 hJ0 hK0
          by_cases hk0 : kind = 0
          · exact act_k0 hk0 ht hcap hlc hlt hn hm HAC hxS hxc hxl HXM HXN HG h4 hJ0 hK0
          by_cases hk1 : kind = 1
          · exact act_k1 hk1 ht hcap hlc hlt hn hm HAC hxS hxc hxl HXM HXN HG h4 hJ0 hK0
          by_cases hk2 : kind = 2
          · exact act_k2 hk2 ht hcap hlc hlt hn hm HAC hxS hxc hxl HXM HXN HG h4 hJ0 hK0
          by_cases hk3 : kind = 3
          · exact act_k3 hk3 ht hcap hlc hlt hn hm HAC hxS hxc hxl HXM HXN HG h4 hJ0 hK0
          by_cases hk4 : kind = 4
          · exact act_k4 hk4 ht hcap hlc hlt hn hm HAC hxS hxc hxl HXM HXN HG h4 hJ0 hK0
          by_cases hk5 : kind = 5
          · exact act_k5 hk5 ht hcap hlc hlt hn hm HAC hxS hxc hxl HXM HXN HG h4 hJ0 hK0
          by_cases hk6 : kind = 6
          · exact act_k6 hk6 ht hcap hlc hlt hn hm HAC hxS hxc hxl HXM HXN HG h4 hJ0 hK0
          by_cases hk7 : kind = 7
          · exact act_k7 hk7 ht hcap hlc hlt hn hm HAC hxS hxc hxl HXM HXN HG h4 hJ0 hK0
          by_cases hk8 : kind = 8
          · exact act_k8 hk8 ht hcap hlc hlt hn hm HAC hxS hxc hxl HXM HXN HG h4 hJ0 hK0
          by_cases hk9 : kind = 9
          · exact act_k9 hk9 ht hcap hlc hlt hn hm HAC hxS hxc hxl HXM HXN HG h4 hJ0 hK0
          have hkI0 : (kind == 0) = false := by simpa using hk0
          have hkI1 : (kind == 1) = false := by simpa using hk1
          have hkI2 : (kind == 2) = false := by simpa using hk2
          have hkI3 : (kind == 3) = false := by simpa using hk3
          have hkI4 : (kind == 4) = false := by simpa using hk4
          have hkI5 : (kind == 5) = false := by simpa using hk5
          have hkI6 : (kind == 6) = false := by simpa using hk6
          have hkI7 : (kind == 7) = false := by simpa using hk7
          have hkI8 : (kind == 8) = false := by simpa using hk8
          have hkI9 : (kind == 9) = false := by simpa using hk9
          obtain ⟨capd, F, up, left, keep⟩ := r
          have hm4 : m ≤ 1000000 + 10 * (j + 1) := by omega
          have HF := Lib.hid (show _ ∧ _ ∧ _ from ⟨h4, HG.out, hm4⟩)
          clear h4
          go_wp2
          go_meet
          case rel => exact ⟨lb, m, dead, _, A2, c2, 0, rfl, rfl, rfl, HF⟩
        case rest =>
          obtain ⟨lb, m, dead, ⟨capd, F, up, left, keep⟩, A2, c2, y, rfl, rfl, rfl, HI⟩ := hcut
          obtain ⟨s0, hGd, hmd⟩ := HI.out
          have s1 := s0.old (Old.re wc).dr
          have HG := Lib.hid hGd
          have HM := Lib.hid hmd
          have hub : (up == !up) = false := by cases up <;> rfl
          have hdd : (dead != dead) = false := by cases dead <;> rfl
          clear s0 HI hGd hmd
          go_upto_region 47 with (fail)
          have hSS : wc.drew.cell? ⟨br, 0, none⟩ = some (.int .i64 (capd : Int)) ∧ wc.drew.cell? ⟨br, 1, none⟩ = some (.slice A2 F.length c2) ∧ wc.drew.cell? ⟨br, 2, none⟩ = some (.bool (!up)) ∧ wc.drew.cell? ⟨br, 3, none⟩ = some (.int .i64 (left : Int)) ∧ wc.drew.cell? ⟨br, 4, none⟩ = some (.int .i64 keep) ∧ wc.drew.cell? ⟨bx, 0, none⟩ = some (.string (B logN)) ∧ wc.drew.cell? ⟨bx, 1, none⟩ = some (.int .i64 (m : Int)) ∧ wc.drew.cell? ⟨bx, 2, none⟩ = some (.bool dead) := ⟨s1.bd.at_ 0 rfl, s1.bd.at_ 1 rfl, s1.bd.at_ 2 rfl, s1.bd.at_ 3 rfl, s1.bd.at_ 4 rfl, s1.bl.at_ 0 rfl, s1.bl.at_ 1 rfl, s1.bl.at_ 2 rfl⟩
          refine wp_region_noPanic ?_
          refine wp_region_held_drew (S := fun V => V.cell? ⟨br, 0, none⟩ = some (.int .i64 (capd : Int)) ∧ V.cell? ⟨br, 1, none⟩ = some (.slice A2 F.length c2) ∧ V.cell? ⟨br, 2, none⟩ = some (.bool (!up)) ∧ V.cell? ⟨br, 3, none⟩ = some (.int .i64 (left : Int)) ∧ V.cell? ⟨br, 4, none⟩ = some (.int .i64 keep) ∧ V.cell? ⟨bx, 0, none⟩ = some (.string (B logN)) ∧ V.cell? ⟨bx, 1, none⟩ = some (.int .i64 (m : Int)) ∧ V.cell? ⟨bx, 2, none⟩ = some (.bool dead)) (by kernel_rfl) hSS (fun hS9 => ?_)
          clear hS9
          generalize wc.drew = w1 at *
          refine wpAnyH_take (i := 0) (oi := ?o9000) (v := .int .i64 y) ?h9000 (by kernel_rfl) (by kernel_rfl) (by kernel_rfl) (fun _ _ _ h => h) ?y9000 hSS ?r9000
          case h9000 => (simp only [List.getElem?_toArray, List.getElem?_cons_zero]; rfl)
          case y9000 => exact Or.inl ⟨by rfl, by (intro W hSw; (try dsimp only at hSw); go_simp)⟩
          simp only [Act.put, List.setIfInBounds_toArray, List.set_cons_zero, List.set_cons_succ]
          refine wpAnyH_take (i := 1) (oi := ?o9001) (v := .int .i64 y) ?h9001 (by kernel_rfl) (by kernel_rfl) (by kernel_rfl) (fun _ _ _ h => h) ?y9001 hSS ?r9001
          case h9001 => (simp only [List.getElem?_toArray, List.getElem?_cons_zero, List.getElem?_cons_succ]; rfl)
          case y9001 => exact Or.inl ⟨by rfl, by (intro W hSw; (try dsimp only at hSw); go_simp)⟩
          simp only [Act.put, List.setIfInBounds_toArray, List.set_cons_zero, List.set_cons_succ]
          refine wpAnyH_take (i := 2) (oi := ?o9002) (v := .bool false) ?h9002 (by kernel_rfl) (by kernel_rfl) (by kernel_rfl) (fun _ _ _ h => h) ?y9002 hSS ?r9002
          case h9002 => (simp only [List.getElem?_toArray, List.getElem?_cons_zero, List.getElem?_cons_succ]; rfl)
          case y9002 => exact Or.inl ⟨by rfl, by (intro W hSw; (try dsimp only at hSw); go_simp)⟩
          simp only [Act.put, List.setIfInBounds_toArray, List.set_cons_zero, List.set_cons_succ]
          refine wpAnyH_take (i := 3) (oi := ?o9003) (v := .bool false) ?h9003 (by kernel_rfl) (by kernel_rfl) (by kernel_rfl) (fun _ _ _ h => h) ?y9003 hSS ?r9003
          case h9003 => (simp only [List.getElem?_toArray, List.getElem?_cons_zero, List.getElem?_cons_succ]; rfl)
          case y9003 => exact Or.inl ⟨by rfl, by (intro W hSw; (try dsimp only at hSw); go_simp)⟩
          simp only [Act.put, List.setIfInBounds_toArray, List.set_cons_zero, List.set_cons_succ]
          refine wpAnyH_take (i := 4) (oi := ?o9004) (v := ptr lb) ?h9004 (by kernel_rfl) (by kernel_rfl) (by kernel_rfl) (fun _ _ _ h => h) ?y9004 hSS ?r9004
          case h9004 => (simp only [List.getElem?_toArray, List.getElem?_cons_zero, List.getElem?_cons_succ]; rfl)
          case y9004 => exact Or.inl ⟨by rfl, by (intro W hSw; (try dsimp only at hSw); go_simp)⟩
          simp only [Act.put, List.setIfInBounds_toArray, List.set_cons_zero, List.set_cons_succ]
          refine wpAnyH_take (i := 6) (oi := ?o9006) (v := .pointer (some ⟨bx, 1, none⟩)) ?h9006 (by kernel_rfl) (by kernel_rfl) (by kernel_rfl) (fun _ _ _ h => h) ?y9006 hSS ?r9006
          case h9006 => (simp only [List.getElem?_toArray, List.getElem?_cons_zero, List.getElem?_cons_succ]; rfl)
          case y9006 => exact Or.inl ⟨by rfl, by (intro W hSw; (try dsimp only at hSw); go_simp)⟩
          simp only [Act.put, List.setIfInBounds_toArray, List.set_cons_zero, List.set_cons_succ]
          refine wpAnyH_take (i := 7) (oi := ?o9007) (v := .int .i64 (m : Int)) ?h9007 (by kernel_rfl) (by kernel_rfl) (by kernel_rfl) (fun _ _ _ h => h) ?y9007 hSS ?r9007
          case h9007 => (simp only [List.getElem?_toArray, List.getElem?_cons_zero, List.getElem?_cons_succ]; rfl)
          case y9007 => exact Or.inl ⟨by rfl, by (intro W hSw; (try dsimp only at hSw); go_simp)⟩
          simp only [Act.put, List.setIfInBounds_toArray, List.set_cons_zero, List.set_cons_succ]
          refine wpAnyH_ready (rs := [5]) (by kernel_rfl) (by simp) ?_
          refine AllReadyH.cons rfl (fun K hK => ?_) AllReadyH.nil
          go_simp
          refine (many_any s1.lg).mono ?_
          rintro e w2 ⟨rfl, rfl⟩
          refine hK.out _ _ hSS (fun hz => ?_)
          clear hz hK K
          refine wpAnyH_take (i := 8) (oi := ?o9008) (v := .bool false) ?h9008 (by kernel_rfl) (by kernel_rfl) (by kernel_rfl) (fun _ _ _ h => h) ?y9008 hSS ?r9008
          case h9008 => (simp only [List.getElem?_toArray, List.getElem?_cons_zero, List.getElem?_cons_succ]; rfl)
          case y9008 => exact Or.inl ⟨by rfl, by (intro W hSw; (try dsimp only at hSw); go_simp)⟩
          simp only [Act.put, List.setIfInBounds_toArray, List.set_cons_zero, List.set_cons_succ]
          refine wpAnyH_take (i := 9) (oi := ?o9009) (v := .bool false) ?h9009 (by kernel_rfl) (by kernel_rfl) (by kernel_rfl) (fun _ _ _ h => h) ?y9009 hSS ?r9009
          case h9009 => (simp only [List.getElem?_toArray, List.getElem?_cons_zero, List.getElem?_cons_succ]; rfl)
          case y9009 => exact Or.inl ⟨by rfl, by (intro W hSw; (try dsimp only at hSw); go_simp)⟩
          simp only [Act.put, List.setIfInBounds_toArray, List.set_cons_zero, List.set_cons_succ]
          refine wpAnyH_take (i := 10) (oi := ?o9010) (v := .bool false) ?h9010 (by kernel_rfl) (by kernel_rfl) (by kernel_rfl) (fun _ _ _ h => h) ?y9010 hSS ?r9010
          case h9010 => (simp only [List.getElem?_toArray, List.getElem?_cons_zero, List.getElem?_cons_succ]; rfl)
          case y9010 => exact Or.inl ⟨by rfl, by (intro W hSw; (try dsimp only at hSw); go_simp)⟩
          simp only [Act.put, List.setIfInBounds_toArray, List.set_cons_zero, List.set_cons_succ]
          refine wpAnyH_take (i := 11) (oi := ?o9011) (v := ptr lb) ?h9011 (by kernel_rfl) (by kernel_rfl) (by kernel_rfl) (fun _ _ _ h => h) ?y9011 hSS ?r9011
          case h9011 => (simp only [List.getElem?_toArray, List.getElem?_cons_zero, List.getElem?_cons_succ]; rfl)
          case y9011 => exact Or.inl ⟨by rfl, by (intro W hSw; (try dsimp only at hSw); go_simp)⟩
          simp only [Act.put, List.setIfInBounds_toArray, List.set_cons_zero, List.set_cons_succ]
          refine wpAnyH_take (i := 13) (oi := ?o9013) (v := .pointer (some ⟨bx, 2, none⟩)) ?h9013 (by kernel_rfl) (by kernel_rfl) (by kernel_rfl) (fun _ _ _ h => h) ?y9013 hSS ?r9013
          case h9013 => (simp only [List.getElem?_toArray, List.getElem?_cons_zero, List.getElem?_cons_succ]; rfl)
          case y9013 => exact Or.inl ⟨by rfl, by (intro W hSw; (try dsimp only at hSw); go_simp)⟩
          simp only [Act.put, List.setIfInBounds_toArray, List.set_cons_zero, List.set_cons_succ]
          refine wpAnyH_take (i := 14) (oi := ?o9014) (v := .bool dead) ?h9014 (by kernel_rfl) (by kernel_rfl) (by kernel_rfl) (fun _ _ _ h => h) ?y9014 hSS ?r9014
          case h9014 => (simp only [List.getElem?_toArray, List.getElem?_cons_zero, List.getElem?_cons_succ]; rfl)
          case y9014 => exact Or.inl ⟨by rfl, by (intro W hSw; (try dsimp only at hSw); go_simp)⟩
          simp only [Act.put, List.setIfInBounds_toArray, List.set_cons_zero, List.set_cons_succ]
          refine wpAnyH_ready (rs := [12]) (by kernel_rfl) (by simp) ?_
          refine AllReadyH.cons rfl (fun K hK => ?_) AllReadyH.nil
          go_simp
          refine (off_any s1.lg).mono ?_
          rintro e w2 ⟨rfl, rfl⟩
          refine hK.out _ _ hSS (fun hz => ?_)
          clear hz hK K
          refine wpAnyH_take (i := 15) (oi := ?o9015) (v := .bool false) ?h9015 (by kernel_rfl) (by kernel_rfl) (by kernel_rfl) (fun _ _ _ h => h) ?y9015 hSS ?r9015
          case h9015 => (simp only [List.getElem?_toArray, List.getElem?_cons_zero, List.getElem?_cons_succ]; rfl)
          case y9015 => exact Or.inl ⟨by rfl, by (intro W hSw; (try dsimp only at hSw); go_simp)⟩
          simp only [Act.put, List.setIfInBounds_toArray, List.set_cons_zero, List.set_cons_succ]
          refine wpAnyH_take (i := 16) (oi := ?o9016) (v := .bool false) ?h9016 (by kernel_rfl) (by kernel_rfl) (by kernel_rfl) (fun _ _ _ h => h) ?y9016 hSS ?r9016
          case h9016 => (simp only [List.getElem?_toArray, List.getElem?_cons_zero, List.getElem?_cons_succ]; rfl)
          case y9016 => exact Or.inl ⟨by rfl, by (intro W hSw; (try dsimp only at hSw); go_simp)⟩
          simp only [Act.put, List.setIfInBounds_toArray, List.set_cons_zero, List.set_cons_succ]
          refine wpAnyH_take (i := 17) (oi := ?o9017) (v := .bool false) ?h9017 (by kernel_rfl) (by kernel_rfl) (by kernel_rfl) (fun _ _ _ h => h) ?y9017 hSS ?r9017
          case h9017 => (simp only [List.getElem?_toArray, List.getElem?_cons_zero, List.getElem?_cons_succ]; rfl)
          case y9017 => exact Or.inl ⟨by rfl, by (intro W hSw; (try dsimp only at hSw); go_simp)⟩
          simp only [Act.put, List.setIfInBounds_toArray, List.set_cons_zero, List.set_cons_succ]
          refine wpAnyH_take (i := 18) (oi := ?o9018) (v := ptr d) ?h9018 (by kernel_rfl) (by kernel_rfl) (by kernel_rfl) (fun _ _ _ h => h) ?y9018 hSS ?r9018
          case h9018 => (simp only [List.getElem?_toArray, List.getElem?_cons_zero, List.getElem?_cons_succ]; rfl)
          case y9018 => exact Or.inl ⟨by rfl, by (intro W hSw; (try dsimp only at hSw); go_simp)⟩
          simp only [Act.put, List.setIfInBounds_toArray, List.set_cons_zero, List.set_cons_succ]
          refine wpAnyH_take (i := 20) (oi := ?o9020) (v := .pointer (some ⟨br, 2, none⟩)) ?h9020 (by kernel_rfl) (by kernel_rfl) (by kernel_rfl) (fun _ _ _ h => h) ?y9020 hSS ?r9020
          case h9020 => (simp only [List.getElem?_toArray, List.getElem?_cons_zero, List.getElem?_cons_succ]; rfl)
          case y9020 => exact Or.inl ⟨by rfl, by (intro W hSw; (try dsimp only at hSw); go_simp)⟩
          simp only [Act.put, List.setIfInBounds_toArray, List.set_cons_zero, List.set_cons_succ]
          refine wpAnyH_take (i := 21) (oi := ?o9021) (v := .bool (!up)) ?h9021 (by kernel_rfl) (by kernel_rfl) (by kernel_rfl) (fun _ _ _ h => h) ?y9021 hSS ?r9021
          case h9021 => (simp only [List.getElem?_toArray, List.getElem?_cons_zero, List.getElem?_cons_succ]; rfl)
          case y9021 => exact Or.inl ⟨by rfl, by (intro W hSw; (try dsimp only at hSw); go_simp)⟩
          simp only [Act.put, List.setIfInBounds_toArray, List.set_cons_zero, List.set_cons_succ]
          refine wpAnyH_ready (rs := [19]) (by kernel_rfl) (by simp) ?_
          refine AllReadyH.cons rfl (fun K hK => ?_) AllReadyH.nil
          go_simp
          refine (show Calls Tryd.prog 24 #[ptr d] w1 (fun e w2 => e = .returned (.bool up) ∧ w1 = w2) from up_lw s1.lw).mono ?_
          rintro e w2 ⟨rfl, rfl⟩
          refine hK.out _ _ hSS (fun hz => ?_)
          clear hz hK K
          refine wpAnyH_take (i := 22) (oi := ?o9022) (v := .bool false) ?h9022 (by kernel_rfl) (by kernel_rfl) (by kernel_rfl) (fun _ _ _ h => h) ?y9022 hSS ?r9022
          case h9022 => (simp only [List.getElem?_toArray, List.getElem?_cons_zero, List.getElem?_cons_succ]; rfl)
          case y9022 => exact Or.inl ⟨by rfl, by (intro W hSw; (try dsimp only at hSw); go_simp)⟩
          simp only [Act.put, List.setIfInBounds_toArray, List.set_cons_zero, List.set_cons_succ]
          refine wpAnyH_take (i := 23) (oi := ?o9023) (v := .bool false) ?h9023 (by kernel_rfl) (by kernel_rfl) (by kernel_rfl) (fun _ _ _ h => h) ?y9023 hSS ?r9023
          case h9023 => (simp only [List.getElem?_toArray, List.getElem?_cons_zero, List.getElem?_cons_succ]; rfl)
          case y9023 => exact Or.inl ⟨by rfl, by (intro W hSw; (try dsimp only at hSw); go_simp)⟩
          simp only [Act.put, List.setIfInBounds_toArray, List.set_cons_zero, List.set_cons_succ]
          refine wpAnyH_take (i := 24) (oi := ?o9024) (v := .bool false) ?h9024 (by kernel_rfl) (by kernel_rfl) (by kernel_rfl) (fun _ _ _ h => h) ?y9024 hSS ?r9024
          case h9024 => (simp only [List.getElem?_toArray, List.getElem?_cons_zero, List.getElem?_cons_succ]; rfl)
          case y9024 => exact Or.inl ⟨by rfl, by (intro W hSw; (try dsimp only at hSw); go_simp)⟩
          simp only [Act.put, List.setIfInBounds_toArray, List.set_cons_zero, List.set_cons_succ]
          refine wpAnyH_take (i := 25) (oi := ?o9025) (v := ptr d) ?h9025 (by kernel_rfl) (by kernel_rfl) (by kernel_rfl) (fun _ _ _ h => h) ?y9025 hSS ?r9025
          case h9025 => (simp only [List.getElem?_toArray, List.getElem?_cons_zero, List.getElem?_cons_succ]; rfl)
          case y9025 => exact Or.inl ⟨by rfl, by (intro W hSw; (try dsimp only at hSw); go_simp)⟩
          simp only [Act.put, List.setIfInBounds_toArray, List.set_cons_zero, List.set_cons_succ]
          refine wpAnyH_take (i := 27) (oi := ?o9027) (v := .agg #[.int .i64 (capd : Int), .slice A2 F.length c2, .bool (!up), .int .i64 (left : Int), .int .i64 keep]) ?h9027 (by kernel_rfl) (by kernel_rfl) (by kernel_rfl) (fun _ _ _ h => h) ?y9027 hSS ?r9027
          case h9027 => (simp only [List.getElem?_toArray, List.getElem?_cons_zero, List.getElem?_cons_succ]; rfl)
          case y9027 => exact Or.inl ⟨by rfl, by (intro W hSw; (try dsimp only at hSw); go_simp)⟩
          simp only [Act.put, List.setIfInBounds_toArray, List.set_cons_zero, List.set_cons_succ]
          refine wpAnyH_ready (rs := [26]) (by kernel_rfl) (by simp) ?_
          refine AllReadyH.cons rfl (fun K hK => ?_) AllReadyH.nil
          go_simp
          refine (show Calls Tryd.prog 25 #[ptr d] w1 (fun e w2 => e = .returned (.int .i64 (ptot F : Nat)) ∧ Old w1 w2) from size_lw s1.lw).mono ?_
          rintro e w2 ⟨rfl, o2⟩
          have s2 := s1.old o2
          clear s1 o2 hSS
          have hSS : w2.cell? ⟨br, 0, none⟩ = some (.int .i64 (capd : Int)) ∧ w2.cell? ⟨br, 1, none⟩ = some (.slice A2 F.length c2) ∧ w2.cell? ⟨br, 2, none⟩ = some (.bool (!up)) ∧ w2.cell? ⟨br, 3, none⟩ = some (.int .i64 (left : Int)) ∧ w2.cell? ⟨br, 4, none⟩ = some (.int .i64 keep) ∧ w2.cell? ⟨bx, 0, none⟩ = some (.string (B logN)) ∧ w2.cell? ⟨bx, 1, none⟩ = some (.int .i64 (m : Int)) ∧ w2.cell? ⟨bx, 2, none⟩ = some (.bool dead) := ⟨s2.bd.at_ 0 rfl, s2.bd.at_ 1 rfl, s2.bd.at_ 2 rfl, s2.bd.at_ 3 rfl, s2.bd.at_ 4 rfl, s2.bl.at_ 0 rfl, s2.bl.at_ 1 rfl, s2.bl.at_ 2 rfl⟩
          refine hK.out _ _ hSS (fun hz => ?_)
          clear hz hK K
          refine wpAnyH_ready (rs := [28]) (by kernel_rfl) (by simp) ?_
          refine AllReadyH.cons rfl (fun K hK => ?_) AllReadyH.nil
          go_simp
          refine (rSize_any A2 c2 ⟨capd, F, up, left, keep⟩ HG.out.fin.len HG.out.fin.tot w2 s2.ft.1).mono ?_
          rintro e w3 ⟨rfl, o3⟩
          have s3 := s2.old o3
          clear s2 o3 hSS
          have hSS : w3.cell? ⟨br, 0, none⟩ = some (.int .i64 (capd : Int)) ∧ w3.cell? ⟨br, 1, none⟩ = some (.slice A2 F.length c2) ∧ w3.cell? ⟨br, 2, none⟩ = some (.bool (!up)) ∧ w3.cell? ⟨br, 3, none⟩ = some (.int .i64 (left : Int)) ∧ w3.cell? ⟨br, 4, none⟩ = some (.int .i64 keep) ∧ w3.cell? ⟨bx, 0, none⟩ = some (.string (B logN)) ∧ w3.cell? ⟨bx, 1, none⟩ = some (.int .i64 (m : Int)) ∧ w3.cell? ⟨bx, 2, none⟩ = some (.bool dead) := ⟨s3.bd.at_ 0 rfl, s3.bd.at_ 1 rfl, s3.bd.at_ 2 rfl, s3.bd.at_ 3 rfl, s3.bd.at_ 4 rfl, s3.bl.at_ 0 rfl, s3.bl.at_ 1 rfl, s3.bl.at_ 2 rfl⟩
          refine hK.out _ _ hSS (fun hz => ?_)
          clear hz hK K
          refine wpAnyH_take (i := 29) (oi := ?o9029) (v := .bool false) ?h9029 (by kernel_rfl) (by kernel_rfl) (by kernel_rfl) (fun _ _ _ h => h) ?y9029 hSS ?r9029
          case h9029 => (simp only [List.getElem?_toArray, List.getElem?_cons_zero, List.getElem?_cons_succ]; rfl)
          case y9029 => exact Or.inl ⟨by rfl, by (intro W hSw; (try dsimp only at hSw); go_simp)⟩
          simp only [Act.put, List.setIfInBounds_toArray, List.set_cons_zero, List.set_cons_succ]
          refine wpAnyH_take (i := 30) (oi := ?o9030) (v := .bool false) ?h9030 (by kernel_rfl) (by kernel_rfl) (by kernel_rfl) (fun _ _ _ h => h) ?y9030 hSS ?r9030
          case h9030 => (simp only [List.getElem?_toArray, List.getElem?_cons_zero, List.getElem?_cons_succ]; rfl)
          case y9030 => exact Or.inl ⟨by rfl, by (intro W hSw; (try dsimp only at hSw); go_simp)⟩
          simp only [Act.put, List.setIfInBounds_toArray, List.set_cons_zero, List.set_cons_succ]
          refine wpAnyH_done (by kernel_rfl) ?_ _
          refine NoPanic.normal ?_
          have HF := Lib.hid (show _ ∧ _ ∧ _ from ⟨s3, HG.out, HM.out⟩)
          clear s3 hSS hub hdd
          go_wp2
          go_roundw
          case rel => first | exact ⟨j + 1, lb, m, dead, _, A2, c2, by omega, by go_num, rfl, HF⟩ | ((repeat apply Exists.intro); exact ⟨⟨j + 1, lb, m, dead, _, A2, c2, by omega, by go_num, rfl, HF⟩, rfl⟩)
          case measure => simp [intOf]; omega
    · clear h1
      go_wp2
      go_ret
      exact ⟨rfl, HOLD.out⟩
end Go.Proofs.YtilimfbjkgeciaaDoor
