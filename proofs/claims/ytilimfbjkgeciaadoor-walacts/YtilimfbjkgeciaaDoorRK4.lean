/-
  WalActs' round, by the act's kind: Reset, Crash. Conditions: the law's own state, as it stands ahead of the switch.
-/
import Derived.Test.YtilimfbjkgeciaaDoorRSS
import Derived.StillTailTactics
import Derived.Deep.CutBlock
import Derived.Deep.CutRange
import Derived.Deep.RegionHeldLaw
import Derived.Laws.Small
namespace Go.Proofs.YtilimfbjkgeciaaDoor
open Go.ChangeShapes Go.WideShapes Go.ChangeAt Go.RowKit Go.Joins Go.Deep Go.Maps Go.Shelf
set_option maxRecDepth 100000

set_option maxHeartbeats 64000000 in
theorem act_k4 {w w4 : World} {d lb br bx m j : Nat} {dead : Bool} {r : Pd} {A2 : Option Addr} {c2 : Nat} {l : List Ac} {cap bb off : Nat} {kind xn xk : Int} {xt : List (List UInt8)} {xA : Option Addr} {xc : Nat}
    {x0 x2 x3 x4 x8 x11 x14 x15 x16 x17 x18 x19 x20 x21 x22 x23 x24 x25 x26 x27 x28 x29 x30 x31 x32 x33 x34 x35 x36 x37 x38 x39 x40 x41 x42 x43 x44 x45 x46 x47 x48 x49 x50 x51 x52 x53 x54 x55 x56 x57 x58 x59 x60 x61 x62 x63 x64 x65 x66 x67 x68 x69 x70 x71 x72 x73 x74 x75 x76 x77 x78 x79 x81 x82 x83 x84 x85 x86 x87 x88 x89 x90 x91 x92 x93 x94 x95 x96 x97 x98 x99 x100 x101 x102 x103 x104 x105 x106 x107 x108 x109 x110 x111 x112 x113 x114 x115 x116 x117 x118 x119 x120 x121 x122 x123 x124 x125 x126 x127 x128 x129 x130 x131 x132 x133 x134 x135 x136 x137 x138 x139 x140 x141 x142 x143 x144 x145 x146 x147 x148 x149 x150 x151 x152 x153 x154 x155 x156 x157 x158 x159 x160 x161 x162 x163 x164 x165 x166 x167 x168 x169 x170 x171 x172 x173 x174 x175 x176 x177 x178 x179 x180 x181 x182 x183 x184 x185 x186 x187 x188 x189 x190 x191 x192 x193 x194 x195 x196 x197 x198 x199 x200 x201 x202 x203 x204 x205 x206 x207 x208 x209 x210 x211 x212 x213 x214 x215 x216 x217 x218 x219 x220 x221 x222 x223 x224 x225 x226 x227 x228 x229 x230 x231 x232 x233 x234 : Value} {J K : Act → World → Prop} {Q : Exit → Act → World → Prop}
    (hk : kind = 4) (ht : Tab w) (hcap : cap ≤ maxLen) (hlc : l.length ≤ cap) (hlt : j < l.length) (hn : l.length ≤ 60) (hm : m ≤ 1000000 + 10 * j)
    (HAC : Hid (∀ (W : World), Old w W → ActAt W bb (off + j * 4) ⟨kind, xn, xk, xt, xA, xc⟩)) (hxS : Strs w xA xc xt) (hxc : xc ≤ maxLen) (hxl : xt.length ≤ 10) (HXM : Hid (∀ t ∈ xt, t.length ≤ 1000000)) (HXN : Hid (xn ≤ 9223372036854775807)) (HG : Hid (Good logN r))
    (h4 : St w w4 d lb br bx (nr r) m dead r A2 c2 (m : Int) dead)
    (hJ : ∀ (a' : Act) (w' : World), (∃ u4 u7 u9 u12 u14 u15 u16 u17 u18 u19 u20 u63 u64 u65 u66 u67 u68 u69 u70 u71 u72 u73 u74 u75 u76 u77 u78 u79 u80 u81 u82 u83 u84 u85 u86 u87 u88 u89 u90 u91 u92 u93 u94 u95 u96 u97 u98 u99 u100 u101 u102 u103 u104 u105 u106 u107 u108 u109 u110 u111 u112 u113 u114 u115 u116 u117 u118 u119 u120 u121 u122 u123 u124 u125 u126 u127 u128 u129 u130 u131 u132 u133 u134 u135 u136 u137 u138 u139 u140 u141 u142 u143 u144 u145 u146 u147 u148 u149 u150 u151 u152 u153 u154 u155 u156 u157 u158 u159 u160 u161 u162 u163 u164 u165 u166 u167 u168 u169 u170 u171 u172 u173 u174 u175 u176 u177 u178 u179 u180 u181 u182 u183 u184 u185 u186 u187 u188 u189 u190 u191 u192 u193 u194 u195 u196 u197 u198 u199 u200 u201 u202 u203 u204 u205 u206 u207 u208 u209 u210 u211 u212 u213 u214 u215 u216 u217 u218 u219 u220 u221 u222 u223 u224 u225 u226 u227 u228 u229 u230 u231 u232 u233 u234 : Value, (∃ (lb m : Nat) (dead : Bool) (r : Pd) (A : Option Addr) (c : Nat) (y : Int), u7 = ptr lb ∧ u9 = .int .i64 y ∧ u12 = .int .i64 y ∧ Hid (St w w' d lb br bx (nr r) m dead r A c (m : Int) dead ∧ Good logN r ∧ m ≤ 1000000 + 10 * (j + 1))) ∧
      a' = ⟨#[x0, .slice (some ⟨bb, off, none⟩) l.length cap, x2, x3, u4, ptr d, .pointer (some ⟨br, 0, none⟩), u7, x8, u9, .pointer (some ⟨bx, 0, none⟩), x11, u12, .int .i64 (j : Int), u14, u15, u16, u17, u18, u19, u20, x21, x22, x23, x24, x25, x26, x27, x28, x29, x30, x31, x32, x33, x34, x35, x36, x37, x38, x39, x40, x41, x42, x43, x44, x45, x46, x47, x48, x49, x50, x51, x52, x53, x54, x55, x56, x57, x58, x59, x60, x61, x62, u63, u64, u65, u66, u67, u68, u69, u70, u71, u72, u73, u74, u75, u76, u77, u78, u79, u80, u81, u82, u83, u84, u85, u86, u87, u88, u89, u90, u91, u92, u93, u94, u95, u96, u97, u98, u99, u100, u101, u102, u103, u104, u105, u106, u107, u108, u109, u110, u111, u112, u113, u114, u115, u116, u117, u118, u119, u120, u121, u122, u123, u124, u125, u126, u127, u128, u129, u130, u131, u132, u133, u134, u135, u136, u137, u138, u139, u140, u141, u142, u143, u144, u145, u146, u147, u148, u149, u150, u151, u152, u153, u154, u155, u156, u157, u158, u159, u160, u161, u162, u163, u164, u165, u166, u167, u168, u169, u170, u171, u172, u173, u174, u175, u176, u177, u178, u179, u180, u181, u182, u183, u184, u185, u186, u187, u188, u189, u190, u191, u192, u193, u194, u195, u196, u197, u198, u199, u200, u201, u202, u203, u204, u205, u206, u207, u208, u209, u210, u211, u212, u213, u214, u215, u216, u217, u218, u219, u220, u221, u222, u223, u224, u225, u226, u227, u228, u229, u230, u231, u232, u233, u234], []⟩) → J a' w') (hK : ∀ (a' : Act) (w' : World), Met J a' w' → K a' w') :
    Code.wp Tryd.prog sw (Exit.then K Q) ⟨#[x0, .slice (some ⟨bb, off, none⟩) l.length cap, x2, x3, x4, ptr d, .pointer (some ⟨br, 0, none⟩), ptr lb, x8, .int .i64 0, .pointer (some ⟨bx, 0, none⟩), x11, .int .i64 0, .int .i64 (j : Int), x14, x15, x16, x17, x18, x19, x20, x21, x22, x23, x24, x25, x26, x27, x28, x29, x30, x31, x32, x33, x34, x35, x36, x37, x38, x39, x40, x41, x42, x43, x44, x45, x46, x47, x48, x49, x50, x51, x52, x53, x54, x55, x56, x57, x58, x59, x60, x61, x62, x63, x64, x65, x66, x67, x68, x69, x70, x71, x72, x73, x74, x75, x76, x77, x78, x79, .int .i64 kind, x81, x82, x83, x84, x85, x86, x87, x88, x89, x90, x91, x92, x93, x94, x95, x96, x97, x98, x99, x100, x101, x102, x103, x104, x105, x106, x107, x108, x109, x110, x111, x112, x113, x114, x115, x116, x117, x118, x119, x120, x121, x122, x123, x124, x125, x126, x127, x128, x129, x130, x131, x132, x133, x134, x135, x136, x137, x138, x139, x140, x141, x142, x143, x144, x145, x146, x147, x148, x149, x150, x151, x152, x153, x154, x155, x156, x157, x158, x159, x160, x161, x162, x163, x164, x165, x166, x167, x168, x169, x170, x171, x172, x173, x174, x175, x176, x177, x178, x179, x180, x181, x182, x183, x184, x185, x186, x187, x188, x189, x190, x191, x192, x193, x194, x195, x196, x197, x198, x199, x200, x201, x202, x203, x204, x205, x206, x207, x208, x209, x210, x211, x212, x213, x214, x215, x216, x217, x218, x219, x220, x221, x222, x223, x224, x225, x226, x227, x228, x229, x230, x231, x232, x233, x234], []⟩ w4 := by
  have hU := Lib.hid (show _ ∧ _ ∧ _ ∧ _ ∧ _ ∧ _ ∧ _ ∧ _ from ⟨ht, hlc, hn, hxS, hxc, hxl, HXM, HXN⟩)
  clear hU
  conv => arg 2; whnf
  have hc2 : cap ≤ 2 ^ 63 - 1 := hcap
  have hj : j ≤ l.length := Nat.le_of_lt hlt
  obtain ⟨c0, c1', c2', c3⟩ := HAC.out w4 h4.lw.old
  simp only at c0 c1' c2' c3
  obtain ⟨capd, F, up, left, keep⟩ := r
  have hltI : (j : Int) < (l.length : Int) := by omega
  subst hk
  obtain ⟨m1, o1, e1, hp, hm1, hd1, he1⟩ := nr_reset logN ⟨capd, F, up, left, keep⟩ m dead xt
  have hGq := good_rchange HG.out (fun s => good_rwrite HG.out s) (m : Int) dead xt xt.length
  have hmq := rchange_many hm1 (1000000 + 10 * (j + 1)) (by omega) (by omega)
  have HC := Lib.hid (fun (W : World) (oW : Old w W) (hf : Flt W (.slice A2 F.length c2) F) => rreset_any A2 c2 ⟨capd, F, up, left, keep⟩ logN (m : Int) dead xt xA xc HG.out nmG (by omega) HXM.out W (hxS.old oW) hf)
  generalize rchange (rwrite logN) ⟨capd, F, up, left, keep⟩ m dead xt xt.length = q at *
  obtain ⟨⟨cap1, F1, up1, left1, keep1⟩, qm, qd, qe⟩ := q
  simp only at hp hm1 hd1 he1 hGq HC
  subst hm1
  have hd2 := hd1.symm
  have he2 := he1.symm
  clear hd1 he1
  subst hd2 he2
  have H := reset_lw h4.lw ht h4.hl h4.lg nmG xt xA xc (by omega) HXM.out (hxS.old h4.lw.old)
  rw [hp] at H
  clear hp
  go_wp2_with fail
  refine H.mono ?_
  clear H
  rintro e w5 ⟨rfl, h5, q5, kr, -⟩
  have s5 := h4.code kr h5 q5 h4.hl
  clear h4 h5 q5 kr c0 c1' c2' c3
  go_upto_region 25 with (fail)
  have s6 := s5.old (Old.re _).dr
  clear s5
  obtain ⟨c0, c1', c2', c3⟩ := HAC.out w5.drew s6.lw.old
  simp only at c0 c1' c2' c3
  have y0 : w5.drew.cell? ⟨br, 0, none⟩ = some (.int .i64 (capd : Int)) := s6.bd.at_ 0 rfl
  have y1 : w5.drew.cell? ⟨br, 1, none⟩ = some (.slice A2 F.length c2) := s6.bd.at_ 1 rfl
  have y2 : w5.drew.cell? ⟨br, 2, none⟩ = some (.bool (!up)) := s6.bd.at_ 2 rfl
  have y3 : w5.drew.cell? ⟨br, 3, none⟩ = some (.int .i64 (left : Int)) := s6.bd.at_ 3 rfl
  have y4 : w5.drew.cell? ⟨br, 4, none⟩ = some (.int .i64 keep) := s6.bd.at_ 4 rfl
  have v0 : w5.drew.cell? ⟨bx, 0, none⟩ = some (.string (B logN)) := s6.bl.at_ 0 rfl
  have v1 : w5.drew.cell? ⟨bx, 1, none⟩ = some (.int .i64 (m : Int)) := s6.bl.at_ 1 rfl
  have v2 : w5.drew.cell? ⟨bx, 2, none⟩ = some (.bool dead) := s6.bl.at_ 2 rfl
  refine wp_region_noPanic ?_
  refine wp_region_held_drew (S := fun V => V.cell? ⟨bb, off + j * 4 + 3, none⟩ = some (.slice xA xt.length xc)) (by kernel_rfl) c3 (fun hSS => ?_)
  generalize w5.drew = w6 at *
  clear c0 c1' c2' c3
  refine wpAnyH_take (i := 2) (oi := ?o402) (v := .slice (some ⟨bb, off, none⟩) l.length cap) ?h402 (by kernel_rfl) (by kernel_rfl) (by kernel_rfl) (fun _ _ _ h => h) ?y402 hSS ?r402
  case h402 => (simp only [List.getElem?_toArray, List.getElem?_cons_zero, List.getElem?_cons_succ]; rfl)
  case y402 => exact Or.inl ⟨by rfl, by (intro W hSw; (try dsimp only at hSw); go_simp)⟩
  simp only [Act.put, List.setIfInBounds_toArray, List.set_cons_zero, List.set_cons_succ]
  refine wpAnyH_take (i := 3) (oi := ?o403) (v := .int .i64 (j : Int)) ?h403 (by kernel_rfl) (by kernel_rfl) (by kernel_rfl) (fun _ _ _ h => h) ?y403 hSS ?r403
  case h403 => (simp only [List.getElem?_toArray, List.getElem?_cons_zero, List.getElem?_cons_succ]; rfl)
  case y403 => exact Or.inl ⟨by rfl, by (intro W hSw; (try dsimp only at hSw); go_simp)⟩
  simp only [Act.put, List.setIfInBounds_toArray, List.set_cons_zero, List.set_cons_succ]
  refine wpAnyH_take (i := 4) (oi := ?o404) (v := .pointer (some ⟨bb, off + j * 4, none⟩)) ?h404 (by kernel_rfl) (by kernel_rfl) (by kernel_rfl) (fun _ _ _ h => h) ?y404 hSS ?r404
  case h404 => (simp only [List.getElem?_toArray, List.getElem?_cons_zero, List.getElem?_cons_succ]; rfl)
  case y404 => exact Or.inl ⟨by rfl, by (intro W hSw; (try dsimp only at hSw); go_simp)⟩
  simp only [Act.put, List.setIfInBounds_toArray, List.set_cons_zero, List.set_cons_succ]
  refine wpAnyH_take (i := 5) (oi := ?o405) (v := .pointer (some ⟨bb, off + j * 4 + 3, none⟩)) ?h405 (by kernel_rfl) (by kernel_rfl) (by kernel_rfl) (fun _ _ _ h => h) ?y405 hSS ?r405
  case h405 => (simp only [List.getElem?_toArray, List.getElem?_cons_zero, List.getElem?_cons_succ]; rfl)
  case y405 => exact Or.inl ⟨by rfl, by (intro W hSw; (try dsimp only at hSw); go_simp)⟩
  simp only [Act.put, List.setIfInBounds_toArray, List.set_cons_zero, List.set_cons_succ]
  refine wpAnyH_take (i := 6) (oi := ?o406) (v := .slice xA xt.length xc) ?h406 (by kernel_rfl) (by kernel_rfl) (by kernel_rfl) (fun _ _ _ h => h) ?y406 hSS ?r406
  case h406 => (simp only [List.getElem?_toArray, List.getElem?_cons_zero, List.getElem?_cons_succ]; rfl)
  case y406 => exact Or.inl ⟨by rfl, by (intro W hSw; (try dsimp only at hSw); go_simp)⟩
  simp only [Act.put, List.setIfInBounds_toArray, List.set_cons_zero, List.set_cons_succ]
  refine wpAnyH_ready (rs := [0, 1]) (by kernel_rfl) (by simp) ?_
  refine AllReadyH.cons rfl (fun K hK => ?_) (AllReadyH.cons rfl (fun K hK => ?_) AllReadyH.nil)
  go_simp
  refine hK.out _ _ hSS (fun hz => ?_)
  clear hz hK K
  refine wpAnyH_ready (rs := [1]) (by kernel_rfl) (by simp) ?_
  refine AllReadyH.cons rfl (fun K hK => ?_) AllReadyH.nil
  go_simp
  refine hK.out _ _ hSS (fun hz => ?_)
  clear hz hK K
  refine ?KK400
  rotate_left
  go_simp
  refine hK.out _ _ hSS (fun hz => ?_)
  clear hz hK K
  refine wpAnyH_ready (rs := [0]) (by kernel_rfl) (by simp) ?_
  refine AllReadyH.cons rfl (fun K hK => ?_) AllReadyH.nil
  go_simp
  refine hK.out _ _ hSS (fun hz => ?_)
  clear hz hK K
  exact ?KK400
  clear y0 y1 y2 y3 y4 v0 v1 v2
  refine wpAnyH_ready (rs := [7]) (by kernel_rfl) (by simp) ?_
  refine AllReadyH.cons rfl (fun K hK => ?_) AllReadyH.nil
  go_simp
  refine (HC.out w6 s6.lw.old s6.ft).mono ?_
  clear HC
  rintro e w7 ⟨A3, c3x, rfl, hf, o7⟩
  have s7 := s6.old o7
  clear s6 o7 hSS
  have hSS := (HAC.out _ s7.lw.old).c3
  simp only at hSS
  refine hK.out _ _ hSS (fun hz => ?_)
  clear hz hK K
  refine wpAnyH_take (i := 8) (oi := ?o408) (v := .tuple #[Rv (.slice A3 F1.length c3x) ⟨cap1, F1, up1, left1, keep1⟩, Rlv logN (m1 : Int) o1, .int .i64 e1]) ?h408 (by kernel_rfl) (by kernel_rfl) (by kernel_rfl) (fun _ _ _ h => h) ?y408 hSS ?r408
  case h408 => (simp only [List.getElem?_toArray, List.getElem?_cons_zero, List.getElem?_cons_succ]; rfl)
  case y408 => exact Or.inl ⟨by rfl, by (intro W hSw; (try dsimp only at hSw); go_simp)⟩
  simp only [Act.put, List.setIfInBounds_toArray, List.set_cons_zero, List.set_cons_succ]
  refine wpAnyH_take (i := 9) (oi := ?o409) (v := Rv (.slice A3 F1.length c3x) ⟨cap1, F1, up1, left1, keep1⟩) ?h409 (by kernel_rfl) (by kernel_rfl) (by kernel_rfl) (fun _ _ _ h => h) ?y409 hSS ?r409
  case h409 => (simp only [List.getElem?_toArray, List.getElem?_cons_zero, List.getElem?_cons_succ]; rfl)
  case y409 => exact Or.inl ⟨by rfl, by (intro W hSw; (try dsimp only at hSw); go_simp)⟩
  simp only [Act.put, List.setIfInBounds_toArray, List.set_cons_zero, List.set_cons_succ]
  refine wpAnyH_take (i := 10) (oi := ?o410) (v := Rlv logN (m1 : Int) o1) ?h410 (by kernel_rfl) (by kernel_rfl) (by kernel_rfl) (fun _ _ _ h => h) ?y410 hSS ?r410
  case h410 => (simp only [List.getElem?_toArray, List.getElem?_cons_zero, List.getElem?_cons_succ]; rfl)
  case y410 => exact Or.inl ⟨by rfl, by (intro W hSw; (try dsimp only at hSw); go_simp)⟩
  simp only [Act.put, List.setIfInBounds_toArray, List.set_cons_zero, List.set_cons_succ]
  refine wpAnyH_take (i := 11) (oi := ?o411) (v := .int .i64 e1) ?h411 (by kernel_rfl) (by kernel_rfl) (by kernel_rfl) (fun _ _ _ h => h) ?y411 hSS ?r411
  case h411 => (simp only [List.getElem?_toArray, List.getElem?_cons_zero, List.getElem?_cons_succ]; rfl)
  case y411 => exact Or.inl ⟨by rfl, by (intro W hSw; (try dsimp only at hSw); go_simp)⟩
  simp only [Act.put, List.setIfInBounds_toArray, List.set_cons_zero, List.set_cons_succ]
  have y0 : w7.cell? ⟨br, 0, none⟩ = some (.int .i64 (capd : Int)) := s7.bd.at_ 0 rfl
  have y1 : w7.cell? ⟨br, 1, none⟩ = some (.slice A2 F.length c2) := s7.bd.at_ 1 rfl
  have y2 : w7.cell? ⟨br, 2, none⟩ = some (.bool (!up)) := s7.bd.at_ 2 rfl
  have y3 : w7.cell? ⟨br, 3, none⟩ = some (.int .i64 (left : Int)) := s7.bd.at_ 3 rfl
  have y4 : w7.cell? ⟨br, 4, none⟩ = some (.int .i64 keep) := s7.bd.at_ 4 rfl
  have yf0 := s7.bd.fr 0
  have yf1 := s7.bd.fr 1
  have yf2 := s7.bd.fr 2
  have yf3 := s7.bd.fr 3
  have yf4 := s7.bd.fr 4
  have s8 := s7.disk hf
  clear s7 hf hSS
  have hSS := (HAC.out _ s8.lw.old).c3
  simp only at hSS
  refine wpAnyH_ready (rs := [12]) (by kernel_rfl) (by simp) ?_
  refine AllReadyH.cons rfl (fun K hK => ?_) AllReadyH.nil
  go_simp
  refine hK.out _ _ hSS (fun hz => ?_)
  clear hz hK K y0 y1 y2 y3 y4 yf0 yf1 yf2 yf3 yf4
  simp only at s8
  generalize (((((w7.setCell ⟨br, 0, none⟩ (.int .i64 (cap1 : Int))).setCell ⟨br, 1, none⟩ (.slice A3 F1.length c3x)).setCell ⟨br, 2, none⟩ (.bool (!up1))).setCell ⟨br, 3, none⟩ (.int .i64 (left1 : Int))).setCell ⟨br, 4, none⟩ (.int .i64 keep1)) = w8 at *
  have v0 : w8.cell? ⟨bx, 0, none⟩ = some (.string (B logN)) := s8.bl.at_ 0 rfl
  have v1 : w8.cell? ⟨bx, 1, none⟩ = some (.int .i64 (m : Int)) := s8.bl.at_ 1 rfl
  have v2 : w8.cell? ⟨bx, 2, none⟩ = some (.bool dead) := s8.bl.at_ 2 rfl
  have vf0 := s8.bl.fr 0
  have vf1 := s8.bl.fr 1
  have vf2 := s8.bl.fr 2
  have s9 := s8.log (m1 : Int) o1
  clear s8 hSS
  have hSS := (HAC.out _ s9.lw.old).c3
  simp only at hSS
  refine wpAnyH_ready (rs := [13]) (by kernel_rfl) (by simp) ?_
  refine AllReadyH.cons rfl (fun K hK => ?_) AllReadyH.nil
  go_simp
  refine hK.out _ _ hSS (fun hz => ?_)
  clear hz hK K v0 v1 v2 vf0 vf1 vf2
  generalize (((w8.setCell ⟨bx, 0, none⟩ (.string (B logN))).setCell ⟨bx, 1, none⟩ (.int .i64 (m1 : Int))).setCell ⟨bx, 2, none⟩ (.bool o1)) = w9 at *
  refine wpAnyH_take (i := 14) (oi := ?o414) (v := .int .i64 e1) ?h414 (by kernel_rfl) (by kernel_rfl) (by kernel_rfl) (fun _ _ _ h => h) ?y414 hSS ?r414
  case h414 => (simp only [List.getElem?_toArray, List.getElem?_cons_zero, List.getElem?_cons_succ]; rfl)
  case y414 => exact Or.inl ⟨by rfl, by (intro W hSw; (try dsimp only at hSw); go_simp)⟩
  simp only [Act.put, List.setIfInBounds_toArray, List.set_cons_zero, List.set_cons_succ]
  refine wpAnyH_done (by kernel_rfl) ?_ _
  refine NoPanic.normal ?_
  have HF := Lib.hid (show _ ∧ _ ∧ _ from ⟨s9, hGq, hmq⟩)
  clear s9 hGq hmq hSS
  go_wp2
  go_meet
  case rel => exact ⟨lb, m1, o1, _, A3, c3x, e1, rfl, rfl, rfl, HF⟩
set_option maxHeartbeats 64000000 in
theorem act_k7 {w w4 : World} {d lb br bx m j : Nat} {dead : Bool} {r : Pd} {A2 : Option Addr} {c2 : Nat} {l : List Ac} {cap bb off : Nat} {kind xn xk : Int} {xt : List (List UInt8)} {xA : Option Addr} {xc : Nat}
    {x0 x2 x3 x4 x8 x11 x14 x15 x16 x17 x18 x19 x20 x21 x22 x23 x24 x25 x26 x27 x28 x29 x30 x31 x32 x33 x34 x35 x36 x37 x38 x39 x40 x41 x42 x43 x44 x45 x46 x47 x48 x49 x50 x51 x52 x53 x54 x55 x56 x57 x58 x59 x60 x61 x62 x63 x64 x65 x66 x67 x68 x69 x70 x71 x72 x73 x74 x75 x76 x77 x78 x79 x81 x82 x83 x84 x85 x86 x87 x88 x89 x90 x91 x92 x93 x94 x95 x96 x97 x98 x99 x100 x101 x102 x103 x104 x105 x106 x107 x108 x109 x110 x111 x112 x113 x114 x115 x116 x117 x118 x119 x120 x121 x122 x123 x124 x125 x126 x127 x128 x129 x130 x131 x132 x133 x134 x135 x136 x137 x138 x139 x140 x141 x142 x143 x144 x145 x146 x147 x148 x149 x150 x151 x152 x153 x154 x155 x156 x157 x158 x159 x160 x161 x162 x163 x164 x165 x166 x167 x168 x169 x170 x171 x172 x173 x174 x175 x176 x177 x178 x179 x180 x181 x182 x183 x184 x185 x186 x187 x188 x189 x190 x191 x192 x193 x194 x195 x196 x197 x198 x199 x200 x201 x202 x203 x204 x205 x206 x207 x208 x209 x210 x211 x212 x213 x214 x215 x216 x217 x218 x219 x220 x221 x222 x223 x224 x225 x226 x227 x228 x229 x230 x231 x232 x233 x234 : Value} {J K : Act → World → Prop} {Q : Exit → Act → World → Prop}
    (hk : kind = 7) (ht : Tab w) (hcap : cap ≤ maxLen) (hlc : l.length ≤ cap) (hlt : j < l.length) (hn : l.length ≤ 60) (hm : m ≤ 1000000 + 10 * j)
    (HAC : Hid (∀ (W : World), Old w W → ActAt W bb (off + j * 4) ⟨kind, xn, xk, xt, xA, xc⟩)) (hxS : Strs w xA xc xt) (hxc : xc ≤ maxLen) (hxl : xt.length ≤ 10) (HXM : Hid (∀ t ∈ xt, t.length ≤ 1000000)) (HXN : Hid (xn ≤ 9223372036854775807)) (HG : Hid (Good logN r))
    (h4 : St w w4 d lb br bx (nr r) m dead r A2 c2 (m : Int) dead)
    (hJ : ∀ (a' : Act) (w' : World), (∃ u4 u7 u9 u12 u14 u15 u16 u17 u18 u19 u20 u63 u64 u65 u66 u67 u68 u69 u70 u71 u72 u73 u74 u75 u76 u77 u78 u79 u80 u81 u82 u83 u84 u85 u86 u87 u88 u89 u90 u91 u92 u93 u94 u95 u96 u97 u98 u99 u100 u101 u102 u103 u104 u105 u106 u107 u108 u109 u110 u111 u112 u113 u114 u115 u116 u117 u118 u119 u120 u121 u122 u123 u124 u125 u126 u127 u128 u129 u130 u131 u132 u133 u134 u135 u136 u137 u138 u139 u140 u141 u142 u143 u144 u145 u146 u147 u148 u149 u150 u151 u152 u153 u154 u155 u156 u157 u158 u159 u160 u161 u162 u163 u164 u165 u166 u167 u168 u169 u170 u171 u172 u173 u174 u175 u176 u177 u178 u179 u180 u181 u182 u183 u184 u185 u186 u187 u188 u189 u190 u191 u192 u193 u194 u195 u196 u197 u198 u199 u200 u201 u202 u203 u204 u205 u206 u207 u208 u209 u210 u211 u212 u213 u214 u215 u216 u217 u218 u219 u220 u221 u222 u223 u224 u225 u226 u227 u228 u229 u230 u231 u232 u233 u234 : Value, (∃ (lb m : Nat) (dead : Bool) (r : Pd) (A : Option Addr) (c : Nat) (y : Int), u7 = ptr lb ∧ u9 = .int .i64 y ∧ u12 = .int .i64 y ∧ Hid (St w w' d lb br bx (nr r) m dead r A c (m : Int) dead ∧ Good logN r ∧ m ≤ 1000000 + 10 * (j + 1))) ∧
      a' = ⟨#[x0, .slice (some ⟨bb, off, none⟩) l.length cap, x2, x3, u4, ptr d, .pointer (some ⟨br, 0, none⟩), u7, x8, u9, .pointer (some ⟨bx, 0, none⟩), x11, u12, .int .i64 (j : Int), u14, u15, u16, u17, u18, u19, u20, x21, x22, x23, x24, x25, x26, x27, x28, x29, x30, x31, x32, x33, x34, x35, x36, x37, x38, x39, x40, x41, x42, x43, x44, x45, x46, x47, x48, x49, x50, x51, x52, x53, x54, x55, x56, x57, x58, x59, x60, x61, x62, u63, u64, u65, u66, u67, u68, u69, u70, u71, u72, u73, u74, u75, u76, u77, u78, u79, u80, u81, u82, u83, u84, u85, u86, u87, u88, u89, u90, u91, u92, u93, u94, u95, u96, u97, u98, u99, u100, u101, u102, u103, u104, u105, u106, u107, u108, u109, u110, u111, u112, u113, u114, u115, u116, u117, u118, u119, u120, u121, u122, u123, u124, u125, u126, u127, u128, u129, u130, u131, u132, u133, u134, u135, u136, u137, u138, u139, u140, u141, u142, u143, u144, u145, u146, u147, u148, u149, u150, u151, u152, u153, u154, u155, u156, u157, u158, u159, u160, u161, u162, u163, u164, u165, u166, u167, u168, u169, u170, u171, u172, u173, u174, u175, u176, u177, u178, u179, u180, u181, u182, u183, u184, u185, u186, u187, u188, u189, u190, u191, u192, u193, u194, u195, u196, u197, u198, u199, u200, u201, u202, u203, u204, u205, u206, u207, u208, u209, u210, u211, u212, u213, u214, u215, u216, u217, u218, u219, u220, u221, u222, u223, u224, u225, u226, u227, u228, u229, u230, u231, u232, u233, u234], []⟩) → J a' w') (hK : ∀ (a' : Act) (w' : World), Met J a' w' → K a' w') :
    Code.wp Tryd.prog sw (Exit.then K Q) ⟨#[x0, .slice (some ⟨bb, off, none⟩) l.length cap, x2, x3, x4, ptr d, .pointer (some ⟨br, 0, none⟩), ptr lb, x8, .int .i64 0, .pointer (some ⟨bx, 0, none⟩), x11, .int .i64 0, .int .i64 (j : Int), x14, x15, x16, x17, x18, x19, x20, x21, x22, x23, x24, x25, x26, x27, x28, x29, x30, x31, x32, x33, x34, x35, x36, x37, x38, x39, x40, x41, x42, x43, x44, x45, x46, x47, x48, x49, x50, x51, x52, x53, x54, x55, x56, x57, x58, x59, x60, x61, x62, x63, x64, x65, x66, x67, x68, x69, x70, x71, x72, x73, x74, x75, x76, x77, x78, x79, .int .i64 kind, x81, x82, x83, x84, x85, x86, x87, x88, x89, x90, x91, x92, x93, x94, x95, x96, x97, x98, x99, x100, x101, x102, x103, x104, x105, x106, x107, x108, x109, x110, x111, x112, x113, x114, x115, x116, x117, x118, x119, x120, x121, x122, x123, x124, x125, x126, x127, x128, x129, x130, x131, x132, x133, x134, x135, x136, x137, x138, x139, x140, x141, x142, x143, x144, x145, x146, x147, x148, x149, x150, x151, x152, x153, x154, x155, x156, x157, x158, x159, x160, x161, x162, x163, x164, x165, x166, x167, x168, x169, x170, x171, x172, x173, x174, x175, x176, x177, x178, x179, x180, x181, x182, x183, x184, x185, x186, x187, x188, x189, x190, x191, x192, x193, x194, x195, x196, x197, x198, x199, x200, x201, x202, x203, x204, x205, x206, x207, x208, x209, x210, x211, x212, x213, x214, x215, x216, x217, x218, x219, x220, x221, x222, x223, x224, x225, x226, x227, x228, x229, x230, x231, x232, x233, x234], []⟩ w4 := by
  have hU := Lib.hid (show _ ∧ _ ∧ _ ∧ _ ∧ _ ∧ _ ∧ _ ∧ _ from ⟨ht, hlc, hn, hxS, hxc, hxl, HXM, HXN⟩)
  clear hU
  conv => arg 2; whnf
  have hc2 : cap ≤ 2 ^ 63 - 1 := hcap
  have hj : j ≤ l.length := Nat.le_of_lt hlt
  obtain ⟨c0, c1', c2', c3⟩ := HAC.out w4 h4.lw.old
  simp only at c0 c1' c2' c3
  obtain ⟨capd, F, up, left, keep⟩ := r
  have hltI : (j : Int) < (l.length : Int) := by omega
  subst hk
  have hm4 : m ≤ 1000000 + 10 * (j + 1) := by omega
  have hGq : Good logN ⟨capd, F.map (pcr xk), false, left, keep⟩ := good_rcrash HG.out xk
  have HC := Lib.hid (fun (W : World) (hf : Fls W (.slice A2 F.length c2) F) => (show Calls Tryd.prog 20 #[Rv (.slice A2 F.length c2) ⟨capd, F, up, left, keep⟩, .int .i64 xk] W (fun e w' => ∃ A' c', e = .returned (Rv (.slice A' (F.map (pcr xk)).length c') ⟨capd, F.map (pcr xk), false, left, keep⟩) ∧ Flt w' (.slice A' (F.map (pcr xk)).length c') (F.map (pcr xk)) ∧ Old W w') from by
    rw [List.length_map]
    exact rcrash_any A2 c2 ⟨capd, F, up, left, keep⟩ xk HG.out.fin W hf))
  have HK := crash_lw h4.lw xk
  rw [← nr_crash] at HK
  simp only [rcrash] at HK
  generalize F.map (pcr xk) = F1 at *
  go_wp2_with fail
  refine HK.mono ?_
  clear HK
  rintro e w5 ⟨rfl, h5, kr, kl⟩
  have q5 : Lg w5 lb d logN _ _ := kl (lb + 1) _ _ h4.lg (by omega)
  have s5 := h4.code kr h5 q5 h4.hl
  clear h4 h5 kr kl q5 c0 c1' c2' c3
  go_upto_region 33 with (fail)
  have s6 := s5.old (Old.re _).dr
  clear s5
  obtain ⟨c0, c1', c2', c3⟩ := HAC.out w5.drew s6.lw.old
  simp only at c0 c1' c2' c3
  have y0 : w5.drew.cell? ⟨br, 0, none⟩ = some (.int .i64 (capd : Int)) := s6.bd.at_ 0 rfl
  have y1 : w5.drew.cell? ⟨br, 1, none⟩ = some (.slice A2 F.length c2) := s6.bd.at_ 1 rfl
  have y2 : w5.drew.cell? ⟨br, 2, none⟩ = some (.bool (!up)) := s6.bd.at_ 2 rfl
  have y3 : w5.drew.cell? ⟨br, 3, none⟩ = some (.int .i64 (left : Int)) := s6.bd.at_ 3 rfl
  have y4 : w5.drew.cell? ⟨br, 4, none⟩ = some (.int .i64 keep) := s6.bd.at_ 4 rfl
  refine wp_region_noPanic ?_
  refine wp_region_held_drew (S := fun V => V.cell? ⟨bb, off + j * 4 + 2, none⟩ = some (.int .i64 xk)) (by kernel_rfl) c2' (fun hSS => ?_)
  generalize w5.drew = w6 at *
  clear c0 c1' c2' c3
  refine wpAnyH_take (i := 1) (oi := ?o701) (v := .slice (some ⟨bb, off, none⟩) l.length cap) ?h701 (by kernel_rfl) (by kernel_rfl) (by kernel_rfl) (fun _ _ _ h => h) ?y701 hSS ?r701
  case h701 => (simp only [List.getElem?_toArray, List.getElem?_cons_zero, List.getElem?_cons_succ]; rfl)
  case y701 => exact Or.inl ⟨by rfl, by (intro W hSw; (try dsimp only at hSw); go_simp)⟩
  simp only [Act.put, List.setIfInBounds_toArray, List.set_cons_zero, List.set_cons_succ]
  refine wpAnyH_take (i := 2) (oi := ?o702) (v := .int .i64 (j : Int)) ?h702 (by kernel_rfl) (by kernel_rfl) (by kernel_rfl) (fun _ _ _ h => h) ?y702 hSS ?r702
  case h702 => (simp only [List.getElem?_toArray, List.getElem?_cons_zero, List.getElem?_cons_succ]; rfl)
  case y702 => exact Or.inl ⟨by rfl, by (intro W hSw; (try dsimp only at hSw); go_simp)⟩
  simp only [Act.put, List.setIfInBounds_toArray, List.set_cons_zero, List.set_cons_succ]
  refine wpAnyH_take (i := 3) (oi := ?o703) (v := .pointer (some ⟨bb, off + j * 4, none⟩)) ?h703 (by kernel_rfl) (by kernel_rfl) (by kernel_rfl) (fun _ _ _ h => h) ?y703 hSS ?r703
  case h703 => (simp only [List.getElem?_toArray, List.getElem?_cons_zero, List.getElem?_cons_succ]; rfl)
  case y703 => exact Or.inl ⟨by rfl, by (intro W hSw; (try dsimp only at hSw); go_simp)⟩
  simp only [Act.put, List.setIfInBounds_toArray, List.set_cons_zero, List.set_cons_succ]
  refine wpAnyH_take (i := 4) (oi := ?o704) (v := .pointer (some ⟨bb, off + j * 4 + 2, none⟩)) ?h704 (by kernel_rfl) (by kernel_rfl) (by kernel_rfl) (fun _ _ _ h => h) ?y704 hSS ?r704
  case h704 => (simp only [List.getElem?_toArray, List.getElem?_cons_zero, List.getElem?_cons_succ]; rfl)
  case y704 => exact Or.inl ⟨by rfl, by (intro W hSw; (try dsimp only at hSw); go_simp)⟩
  simp only [Act.put, List.setIfInBounds_toArray, List.set_cons_zero, List.set_cons_succ]
  refine wpAnyH_take (i := 5) (oi := ?o705) (v := .int .i64 xk) ?h705 (by kernel_rfl) (by kernel_rfl) (by kernel_rfl) (fun _ _ _ h => h) ?y705 hSS ?r705
  case h705 => (simp only [List.getElem?_toArray, List.getElem?_cons_zero, List.getElem?_cons_succ]; rfl)
  case y705 => exact Or.inl ⟨by rfl, by (intro W hSw; (try dsimp only at hSw); go_simp)⟩
  simp only [Act.put, List.setIfInBounds_toArray, List.set_cons_zero, List.set_cons_succ]
  refine wpAnyH_ready (rs := [0]) (by kernel_rfl) (by simp) ?_
  refine AllReadyH.cons rfl (fun K hK => ?_) AllReadyH.nil
  go_simp
  refine hK.out _ _ hSS (fun hz => ?_)
  clear hz hK K y0 y1 y2 y3 y4
  refine wpAnyH_ready (rs := [6]) (by kernel_rfl) (by simp) ?_
  refine AllReadyH.cons rfl (fun K hK => ?_) AllReadyH.nil
  go_simp
  refine (HC.out w6 s6.ft.1).mono ?_
  clear HC
  rintro e w7 ⟨A3, c3x, rfl, hf, o7⟩
  have s7 := s6.old o7
  clear s6 o7 hSS
  have hSS := (HAC.out _ s7.lw.old).c2
  simp only at hSS
  refine hK.out _ _ hSS (fun hz => ?_)
  clear hz hK K
  have y0 : w7.cell? ⟨br, 0, none⟩ = some (.int .i64 (capd : Int)) := s7.bd.at_ 0 rfl
  have y1 : w7.cell? ⟨br, 1, none⟩ = some (.slice A2 F.length c2) := s7.bd.at_ 1 rfl
  have y2 : w7.cell? ⟨br, 2, none⟩ = some (.bool (!up)) := s7.bd.at_ 2 rfl
  have y3 : w7.cell? ⟨br, 3, none⟩ = some (.int .i64 (left : Int)) := s7.bd.at_ 3 rfl
  have y4 : w7.cell? ⟨br, 4, none⟩ = some (.int .i64 keep) := s7.bd.at_ 4 rfl
  have yf0 := s7.bd.fr 0
  have yf1 := s7.bd.fr 1
  have yf2 := s7.bd.fr 2
  have yf3 := s7.bd.fr 3
  have yf4 := s7.bd.fr 4
  have s8 := s7.disk (r' := ⟨capd, F1, false, left, keep⟩) hf
  clear s7 hf hSS
  have hSS := (HAC.out _ s8.lw.old).c2
  simp only at hSS
  refine wpAnyH_ready (rs := [7]) (by kernel_rfl) (by simp) ?_
  refine AllReadyH.cons rfl (fun K hK => ?_) AllReadyH.nil
  go_simp
  refine hK.out _ _ hSS (fun hz => ?_)
  clear hz hK K y0 y1 y2 y3 y4 yf0 yf1 yf2 yf3 yf4
  refine wpAnyH_done (by kernel_rfl) ?_ _
  refine NoPanic.normal ?_
  simp only at s8
  have HF := Lib.hid (show _ ∧ _ ∧ _ from ⟨s8, hGq, hm4⟩)
  clear s8 hGq hm4 hSS
  go_wp2
  go_meet
  case rel => exact ⟨lb, m, dead, ⟨capd, F1, false, left, keep⟩, A3, c3x, 0, rfl, rfl, rfl, HF⟩
end Go.Proofs.YtilimfbjkgeciaaDoor
