/-
  WalActs' round, by the act's kind: On and Open. Conditions: the law's own state, as it stands ahead of the switch.
-/
import Derived.Test.YtilimfbjkgeciaaDoorRSS
import Derived.StillTailTactics
import Derived.Deep.CutBlock
import Derived.Deep.CutRange
import Derived.Deep.RegionHeldLaw
import Derived.Laws.Small
namespace Go.Proofs.YtilimfbjkgeciaaDoor
open Go.ChangeShapes Go.WideShapes Go.ChangeAt Go.RowKit Go.Joins Go.Deep Go.Maps Go.Shelf
set_option maxRecDepth 100000

set_option maxHeartbeats 64000000 in
theorem act_k8 {w w4 : World} {d lb br bx m j : Nat} {dead : Bool} {r : Pd} {A2 : Option Addr} {c2 : Nat} {l : List Ac} {cap bb off : Nat} {kind xn xk : Int} {xt : List (List UInt8)} {xA : Option Addr} {xc : Nat}
    {x0 x2 x3 x4 x8 x11 x14 x15 x16 x17 x18 x19 x20 x21 x22 x23 x24 x25 x26 x27 x28 x29 x30 x31 x32 x33 x34 x35 x36 x37 x38 x39 x40 x41 x42 x43 x44 x45 x46 x47 x48 x49 x50 x51 x52 x53 x54 x55 x56 x57 x58 x59 x60 x61 x62 x63 x64 x65 x66 x67 x68 x69 x70 x71 x72 x73 x74 x75 x76 x77 x78 x79 x81 x82 x83 x84 x85 x86 x87 x88 x89 x90 x91 x92 x93 x94 x95 x96 x97 x98 x99 x100 x101 x102 x103 x104 x105 x106 x107 x108 x109 x110 x111 x112 x113 x114 x115 x116 x117 x118 x119 x120 x121 x122 x123 x124 x125 x126 x127 x128 x129 x130 x131 x132 x133 x134 x135 x136 x137 x138 x139 x140 x141 x142 x143 x144 x145 x146 x147 x148 x149 x150 x151 x152 x153 x154 x155 x156 x157 x158 x159 x160 x161 x162 x163 x164 x165 x166 x167 x168 x169 x170 x171 x172 x173 x174 x175 x176 x177 x178 x179 x180 x181 x182 x183 x184 x185 x186 x187 x188 x189 x190 x191 x192 x193 x194 x195 x196 x197 x198 x199 x200 x201 x202 x203 x204 x205 x206 x207 x208 x209 x210 x211 x212 x213 x214 x215 x216 x217 x218 x219 x220 x221 x222 x223 x224 x225 x226 x227 x228 x229 x230 x231 x232 x233 x234 : Value} {J K : Act → World → Prop} {Q : Exit → Act → World → Prop}
    (hk : kind = 8) (ht : Tab w) (hcap : cap ≤ maxLen) (hlc : l.length ≤ cap) (hlt : j < l.length) (hn : l.length ≤ 60) (hm : m ≤ 1000000 + 10 * j)
    (HAC : Hid (∀ (W : World), Old w W → ActAt W bb (off + j * 4) ⟨kind, xn, xk, xt, xA, xc⟩)) (hxS : Strs w xA xc xt) (hxc : xc ≤ maxLen) (hxl : xt.length ≤ 10) (HXM : Hid (∀ t ∈ xt, t.length ≤ 1000000)) (HXN : Hid (xn ≤ 9223372036854775807)) (HG : Hid (Good logN r))
    (h4 : St w w4 d lb br bx (nr r) m dead r A2 c2 (m : Int) dead)
    (hJ : ∀ (a' : Act) (w' : World), (∃ u4 u7 u9 u12 u14 u15 u16 u17 u18 u19 u20 u63 u64 u65 u66 u67 u68 u69 u70 u71 u72 u73 u74 u75 u76 u77 u78 u79 u80 u81 u82 u83 u84 u85 u86 u87 u88 u89 u90 u91 u92 u93 u94 u95 u96 u97 u98 u99 u100 u101 u102 u103 u104 u105 u106 u107 u108 u109 u110 u111 u112 u113 u114 u115 u116 u117 u118 u119 u120 u121 u122 u123 u124 u125 u126 u127 u128 u129 u130 u131 u132 u133 u134 u135 u136 u137 u138 u139 u140 u141 u142 u143 u144 u145 u146 u147 u148 u149 u150 u151 u152 u153 u154 u155 u156 u157 u158 u159 u160 u161 u162 u163 u164 u165 u166 u167 u168 u169 u170 u171 u172 u173 u174 u175 u176 u177 u178 u179 u180 u181 u182 u183 u184 u185 u186 u187 u188 u189 u190 u191 u192 u193 u194 u195 u196 u197 u198 u199 u200 u201 u202 u203 u204 u205 u206 u207 u208 u209 u210 u211 u212 u213 u214 u215 u216 u217 u218 u219 u220 u221 u222 u223 u224 u225 u226 u227 u228 u229 u230 u231 u232 u233 u234 : Value, (∃ (lb m : Nat) (dead : Bool) (r : Pd) (A : Option Addr) (c : Nat) (y : Int), u7 = ptr lb ∧ u9 = .int .i64 y ∧ u12 = .int .i64 y ∧ Hid (St w w' d lb br bx (nr r) m dead r A c (m : Int) dead ∧ Good logN r ∧ m ≤ 1000000 + 10 * (j + 1))) ∧
      a' = ⟨#[x0, .slice (some ⟨bb, off, none⟩) l.length cap, x2, x3, u4, ptr d, .pointer (some ⟨br, 0, none⟩), u7, x8, u9, .pointer (some ⟨bx, 0, none⟩), x11, u12, .int .i64 (j : Int), u14, u15, u16, u17, u18, u19, u20, x21, x22, x23, x24, x25, x26, x27, x28, x29, x30, x31, x32, x33, x34, x35, x36, x37, x38, x39, x40, x41, x42, x43, x44, x45, x46, x47, x48, x49, x50, x51, x52, x53, x54, x55, x56, x57, x58, x59, x60, x61, x62, u63, u64, u65, u66, u67, u68, u69, u70, u71, u72, u73, u74, u75, u76, u77, u78, u79, u80, u81, u82, u83, u84, u85, u86, u87, u88, u89, u90, u91, u92, u93, u94, u95, u96, u97, u98, u99, u100, u101, u102, u103, u104, u105, u106, u107, u108, u109, u110, u111, u112, u113, u114, u115, u116, u117, u118, u119, u120, u121, u122, u123, u124, u125, u126, u127, u128, u129, u130, u131, u132, u133, u134, u135, u136, u137, u138, u139, u140, u141, u142, u143, u144, u145, u146, u147, u148, u149, u150, u151, u152, u153, u154, u155, u156, u157, u158, u159, u160, u161, u162, u163, u164, u165, u166, u167, u168, u169, u170, u171, u172, u173, u174, u175, u176, u177, u178, u179, u180, u181, u182, u183, u184, u185, u186, u187, u188, u189, u190, u191, u192, u193, u194, u195, u196, u197, u198, u199, u200, u201, u202, u203, u204, u205, u206, u207, u208, u209, u210, u211, u212, u213, u214, u215, u216, u217, u218, u219, u220, u221, u222, u223, u224, u225, u226, u227, u228, u229, u230, u231, u232, u233, u234], []⟩) → J a' w') (hK : ∀ (a' : Act) (w' : World), Met J a' w' → K a' w') :
    Code.wp Tryd.prog sw (Exit.then K Q) ⟨#[x0, .slice (some ⟨bb, off, none⟩) l.length cap, x2, x3, x4, ptr d, .pointer (some ⟨br, 0, none⟩), ptr lb, x8, .int .i64 0, .pointer (some ⟨bx, 0, none⟩), x11, .int .i64 0, .int .i64 (j : Int), x14, x15, x16, x17, x18, x19, x20, x21, x22, x23, x24, x25, x26, x27, x28, x29, x30, x31, x32, x33, x34, x35, x36, x37, x38, x39, x40, x41, x42, x43, x44, x45, x46, x47, x48, x49, x50, x51, x52, x53, x54, x55, x56, x57, x58, x59, x60, x61, x62, x63, x64, x65, x66, x67, x68, x69, x70, x71, x72, x73, x74, x75, x76, x77, x78, x79, .int .i64 kind, x81, x82, x83, x84, x85, x86, x87, x88, x89, x90, x91, x92, x93, x94, x95, x96, x97, x98, x99, x100, x101, x102, x103, x104, x105, x106, x107, x108, x109, x110, x111, x112, x113, x114, x115, x116, x117, x118, x119, x120, x121, x122, x123, x124, x125, x126, x127, x128, x129, x130, x131, x132, x133, x134, x135, x136, x137, x138, x139, x140, x141, x142, x143, x144, x145, x146, x147, x148, x149, x150, x151, x152, x153, x154, x155, x156, x157, x158, x159, x160, x161, x162, x163, x164, x165, x166, x167, x168, x169, x170, x171, x172, x173, x174, x175, x176, x177, x178, x179, x180, x181, x182, x183, x184, x185, x186, x187, x188, x189, x190, x191, x192, x193, x194, x195, x196, x197, x198, x199, x200, x201, x202, x203, x204, x205, x206, x207, x208, x209, x210, x211, x212, x213, x214, x215, x216, x217, x218, x219, x220, x221, x222, x223, x224, x225, x226, x227, x228, x229, x230, x231, x232, x233, x234], []⟩ w4 := by
  have hU := Lib.hid (show _ ∧ _ ∧ _ ∧ _ ∧ _ ∧ _ ∧ _ ∧ _ from ⟨ht, hlc, hn, hxS, hxc, hxl, HXM, HXN⟩)
  clear hU
  conv => arg 2; whnf
  have hc2 : cap ≤ 2 ^ 63 - 1 := hcap
  have hj : j ≤ l.length := Nat.le_of_lt hlt
  obtain ⟨c0, c1', c2', c3⟩ := HAC.out w4 h4.lw.old
  simp only at c0 c1' c2' c3
  obtain ⟨capd, F, up, left, keep⟩ := r
  have hltI : (j : Int) < (l.length : Int) := by omega
  subst hk
  have hm4 : m ≤ 1000000 + 10 * (j + 1) := by omega
  have hGq : Good logN ⟨capd, F, true, 0, keep⟩ := ⟨HG.out.fin, HG.out.cap, Nat.zero_le _, HG.out.two⟩
  have HK := on_lw h4.lw
  rw [← nr_on] at HK
  simp only at HK
  go_wp2_with fail
  refine HK.mono ?_
  clear HK
  rintro e w5 ⟨rfl, h5, kr, kl⟩
  have q5 : Lg w5 lb d logN _ _ := kl (lb + 1) _ _ h4.lg (by omega)
  have s5 := h4.code kr h5 q5 h4.hl
  clear h4 h5 kr kl q5 c0 c1' c2' c3
  have y2 : w5.cell? ⟨br, 2, none⟩ = some (.bool (!up)) := s5.bd.at_ 2 rfl
  have yf2 := s5.bd.fr 2
  have s6 := s5.up
  clear s5
  simp only at s6
  go_upto_region 38 with (fail)
  generalize (w5.setCell ⟨br, 2, none⟩ (.bool false)) = w6 at *
  clear y2 yf2
  have y3 : w6.cell? ⟨br, 3, none⟩ = some (.int .i64 (left : Int)) := s6.bd.at_ 3 rfl
  have yf3 := s6.bd.fr 3
  have s7 : St w (w6.setCell ⟨br, 3, none⟩ (.int .i64 0)) d lb br bx (nr ⟨capd, F, true, 0, keep⟩) m dead ⟨capd, F, true, 0, keep⟩ A2 c2 (m : Int) dead := s6.left 0
  clear s6
  go_upto_region 39 with (fail)
  generalize (w6.setCell ⟨br, 3, none⟩ (.int .i64 0)) = w7 at *
  clear y3 yf3
  have hNO := nr_open ⟨capd, F, true, 0, keep⟩ logN
  have H := open_lw s7.lw ht nmG hGq.cap
  rw [hNO] at H
  clear hNO
  go_wp2_with fail
  refine H.mono ?_
  clear H
  rintro e w8 ⟨h8, kr, kl, hE⟩
  have q8 : Lg w8 lb d logN _ _ := kl (lb + 1) _ _ s7.lg (by omega)
  have s8 := s7.code kr h8 q8 s7.hl
  clear s7 h8 kr kl q8
  have HO2 := ropen_any A2 c2 ⟨capd, F, true, 0, keep⟩ logN hGq nmG w8 s8.ft
  have hGR := good_ropen hGq
  generalize ropen ⟨capd, F, true, 0, keep⟩ logN = R at *
  obtain ⟨⟨cap1, F1, up1, left1, keep1⟩, T, e1⟩ := R
  simp only at s8 hE hGR
  clear hGq
  rcases hE with ⟨rfl, lb2, A5, c5, rfl, hlb2, -, q8, -, hS8⟩ | ⟨hne, rfl⟩
  · have y0 : w8.cell? ⟨br, 0, none⟩ = some (.int .i64 (capd : Int)) := s8.bd.at_ 0 rfl
    have y1 : w8.cell? ⟨br, 1, none⟩ = some (.slice A2 F.length c2) := s8.bd.at_ 1 rfl
    have y2 : w8.cell? ⟨br, 2, none⟩ = some (.bool false) := s8.bd.at_ 2 rfl
    have y3 : w8.cell? ⟨br, 3, none⟩ = some (.int .i64 0) := s8.bd.at_ 3 rfl
    have y4 : w8.cell? ⟨br, 4, none⟩ = some (.int .i64 keep) := s8.bd.at_ 4 rfl
    go_wp2_with fail
    refine HO2.mono ?_
    clear HO2 y0 y1 y2 y3 y4
    rintro e w9 ⟨A3, c3x, hf, o9, ⟨-, TA2, tc2, rfl, hS9, hTs, hTl⟩ | ⟨hne, -⟩⟩
    case inr => exact absurd rfl hne
    have s9 := s8.old o9
    have hS8 := hS8.old o9
    have q9 := q8.old o9
    have s10 := s9.disk (r' := ⟨cap1, F1, up1, left1, keep1⟩) hf
    simp only at s10
    have oo := (old_alloc (((((w9.setCell ⟨br, 0, none⟩ (.int .i64 (cap1 : Int))).setCell ⟨br, 1, none⟩ (.slice A3 F1.length c3x)).setCell ⟨br, 2, none⟩ (.bool (!up1))).setCell ⟨br, 3, none⟩ (.int .i64 (left1 : Int))).setCell ⟨br, 4, none⟩ (.int .i64 keep1)) (.cells #[.int .i64 (cap1 : Int), .slice A3 F1.length c3x, .bool (!up1), .int .i64 (left1 : Int), .int .i64 keep1] 29)).al (.cells #[.string (B logN), .int .i64 (T.length : Int), .bool false] 36)
    have n11 := new_bk' ((((((w9.setCell ⟨br, 0, none⟩ (.int .i64 (cap1 : Int))).setCell ⟨br, 1, none⟩ (.slice A3 F1.length c3x)).setCell ⟨br, 2, none⟩ (.bool (!up1))).setCell ⟨br, 3, none⟩ (.int .i64 (left1 : Int))).setCell ⟨br, 4, none⟩ (.int .i64 keep1)).alloc (.cells #[.int .i64 (cap1 : Int), .slice A3 F1.length c3x, .bool (!up1), .int .i64 (left1 : Int), .int .i64 keep1] 29)) 36 #[.string (B logN), .int .i64 (T.length : Int), .bool false] (w9.heap.size + 1) (by simp [World.setCell])
    have hA := (hS8.bk (fun g cs hb => bfar5 hb (Bk.ne hb s9.bd (by decide)) (.int .i64 (cap1 : Int)) (.slice A3 F1.length c3x) (.bool (!up1)) (.int .i64 (left1 : Int)) (.int .i64 keep1))).old oo
    have hB := (hS9.bk (fun g cs hb => bfar5 hb (Bk.ne hb s9.bd (by decide)) (.int .i64 (cap1 : Int)) (.slice A3 F1.length c3x) (.bool (!up1)) (.int .i64 (left1 : Int)) (.int .i64 keep1))).old oo
    have q10 := (bfar5 q9 (Bk.ne q9 s9.bd (by decide)) (.int .i64 (cap1 : Int)) (.slice A3 F1.length c3x) (.bool (!up1)) (.int .i64 (left1 : Int)) (.int .i64 keep1)).old oo
    have s11 := s10.old oo
    have HH := Lib.hid (show _ ∧ _ ∧ _ ∧ _ ∧ _ from ⟨s11, hA, hB, q10, n11⟩)
    have y0 : w9.cell? ⟨br, 0, none⟩ = some (.int .i64 (capd : Int)) := s9.bd.at_ 0 rfl
    have y1 : w9.cell? ⟨br, 1, none⟩ = some (.slice A2 F.length c2) := s9.bd.at_ 1 rfl
    have y2 : w9.cell? ⟨br, 2, none⟩ = some (.bool false) := s9.bd.at_ 2 rfl
    have y3 : w9.cell? ⟨br, 3, none⟩ = some (.int .i64 0) := s9.bd.at_ 3 rfl
    have y4 : w9.cell? ⟨br, 4, none⟩ = some (.int .i64 keep) := s9.bd.at_ 4 rfl
    have yf0 := s9.bd.fr 0
    have yf1 := s9.bd.fr 1
    have yf2 := s9.bd.fr 2
    have yf3 := s9.bd.fr 3
    have yf4 := s9.bd.fr 4
    have ylt := s9.bd.lt
    clear s9 s10 s11 hf oo o9 hS8 hS9 hA hB q9 q10 n11
    go_upto_region 42 with (fail)
    obtain ⟨s11, hA, hB, q10, n11⟩ := HH.out
    clear HH y0 y1 y2 y3 y4 yf0 yf1 yf2 yf3 yf4 ylt
    generalize (((((((w9.setCell ⟨br, 0, none⟩ (.int .i64 (cap1 : Int))).setCell ⟨br, 1, none⟩ (.slice A3 F1.length c3x)).setCell ⟨br, 2, none⟩ (.bool (!up1))).setCell ⟨br, 3, none⟩ (.int .i64 (left1 : Int))).setCell ⟨br, 4, none⟩ (.int .i64 keep1)).alloc (.cells #[.int .i64 (cap1 : Int), .slice A3 F1.length c3x, .bool (!up1), .int .i64 (left1 : Int), .int .i64 keep1] 29)).alloc (.cells #[.string (B logN), .int .i64 (T.length : Int), .bool false] 36)) = w11 at *
    generalize w9.heap.size + 1 = bz at *
    have H := same_texts T T A5 TA2 c5 tc2 hTl hTl w11 (hA.strs hTs) (hB.strs hTs) true (by simp)
    go_wp2_with fail
    refine H.mono ?_
    clear H
    rintro e w12 ⟨rfl, o12⟩
    have s12 := (s11.old o12).code (Kr.of_old (Old.re _)) (s11.old o12).lw (q10.old o12) hlb2
    have n12 := n11.old o12
    have hmT : T.length ≤ 1000000 + 10 * (j + 1) := by omega
    clear s11 q10 n11 hA hB o12
    have z0 : w12.cell? ⟨bz, 0, none⟩ = some (.string (B logN)) := n12.at_ 0 rfl
    have z1 : w12.cell? ⟨bz, 1, none⟩ = some (.int .i64 (T.length : Int)) := n12.at_ 1 rfl
    have z2 : w12.cell? ⟨bz, 2, none⟩ = some (.bool false) := n12.at_ 2 rfl
    have v0 : w12.cell? ⟨bx, 0, none⟩ = some (.string (B logN)) := s12.bl.at_ 0 rfl
    have v1 : w12.cell? ⟨bx, 1, none⟩ = some (.int .i64 (m : Int)) := s12.bl.at_ 1 rfl
    have v2 : w12.cell? ⟨bx, 2, none⟩ = some (.bool dead) := s12.bl.at_ 2 rfl
    have vf0 := s12.bl.fr 0
    have vf1 := s12.bl.fr 1
    have vf2 := s12.bl.fr 2
    have HF := Lib.hid (show _ ∧ _ ∧ _ from ⟨s12.log (T.length : Int) false, hGR, hmT⟩)
    clear s12 n12 hGR hmT
    go_wp2
    go_meet
    case rel => exact ⟨lb2, T.length, false, ⟨cap1, F1, up1, left1, keep1⟩, A3, c3x, 0, rfl, rfl, rfl, HF⟩
  · have y0 : w8.cell? ⟨br, 0, none⟩ = some (.int .i64 (capd : Int)) := s8.bd.at_ 0 rfl
    have y1 : w8.cell? ⟨br, 1, none⟩ = some (.slice A2 F.length c2) := s8.bd.at_ 1 rfl
    have y2 : w8.cell? ⟨br, 2, none⟩ = some (.bool false) := s8.bd.at_ 2 rfl
    have y3 : w8.cell? ⟨br, 3, none⟩ = some (.int .i64 0) := s8.bd.at_ 3 rfl
    have y4 : w8.cell? ⟨br, 4, none⟩ = some (.int .i64 keep) := s8.bd.at_ 4 rfl
    go_wp2_with fail
    refine HO2.mono ?_
    clear HO2 y0 y1 y2 y3 y4
    rintro e w9 ⟨A3, c3x, hf, o9, ⟨hz2, -⟩ | ⟨-, rfl⟩⟩
    case inl => exact absurd hz2 hne
    have s9 := s8.old o9
    have s10 := s9.disk (r' := ⟨cap1, F1, up1, left1, keep1⟩) hf
    simp only at s10
    have oo := (old_alloc (((((w9.setCell ⟨br, 0, none⟩ (.int .i64 (cap1 : Int))).setCell ⟨br, 1, none⟩ (.slice A3 F1.length c3x)).setCell ⟨br, 2, none⟩ (.bool (!up1))).setCell ⟨br, 3, none⟩ (.int .i64 (left1 : Int))).setCell ⟨br, 4, none⟩ (.int .i64 keep1)) (.cells #[.int .i64 (cap1 : Int), .slice A3 F1.length c3x, .bool (!up1), .int .i64 (left1 : Int), .int .i64 keep1] 29)).al (.cells #[.string { data := #[] }, .int .i64 0, .bool false] 36)
    have s11 := s10.old oo
    have HH := Lib.hid s11
    have y0 : w9.cell? ⟨br, 0, none⟩ = some (.int .i64 (capd : Int)) := s9.bd.at_ 0 rfl
    have y1 : w9.cell? ⟨br, 1, none⟩ = some (.slice A2 F.length c2) := s9.bd.at_ 1 rfl
    have y2 : w9.cell? ⟨br, 2, none⟩ = some (.bool false) := s9.bd.at_ 2 rfl
    have y3 : w9.cell? ⟨br, 3, none⟩ = some (.int .i64 0) := s9.bd.at_ 3 rfl
    have y4 : w9.cell? ⟨br, 4, none⟩ = some (.int .i64 keep) := s9.bd.at_ 4 rfl
    have yf0 := s9.bd.fr 0
    have yf1 := s9.bd.fr 1
    have yf2 := s9.bd.fr 2
    have yf3 := s9.bd.fr 3
    have yf4 := s9.bd.fr 4
    have ylt := s9.bd.lt
    clear s9 s10 s11 hf oo o9
    go_upto_region 42 with (fail)
    have s11 := HH.out
    clear HH y0 y1 y2 y3 y4 yf0 yf1 yf2 yf3 yf4 ylt
    generalize (((((((w9.setCell ⟨br, 0, none⟩ (.int .i64 (cap1 : Int))).setCell ⟨br, 1, none⟩ (.slice A3 F1.length c3x)).setCell ⟨br, 2, none⟩ (.bool (!up1))).setCell ⟨br, 3, none⟩ (.int .i64 (left1 : Int))).setCell ⟨br, 4, none⟩ (.int .i64 keep1)).alloc (.cells #[.int .i64 (cap1 : Int), .slice A3 F1.length c3x, .bool (!up1), .int .i64 (left1 : Int), .int .i64 keep1] 29)).alloc (.cells #[.string { data := #[] }, .int .i64 0, .bool false] 36)) = w11 at *
    have H := same_texts [] [] none none 0 0 (by decide) (by decide) w11 (strs_nil _ _ _) (strs_nil _ _ _) true rfl
    have heb : (e1 == 0) = false := by simpa using hne
    go_wp2_with fail
    refine H.mono ?_
    clear H
    rintro e w12 ⟨rfl, o12⟩
    have HF := Lib.hid (show _ ∧ _ ∧ _ from ⟨s11.old o12, hGR, hm4⟩)
    clear s11 o12 hGR
    go_wp2
    go_meet
    case rel => exact ⟨lb, m, dead, ⟨cap1, F1, up1, left1, keep1⟩, A3, c3x, 0, rfl, rfl, rfl, HF⟩
set_option maxHeartbeats 64000000 in
theorem act_k9 {w w4 : World} {d lb br bx m j : Nat} {dead : Bool} {r : Pd} {A2 : Option Addr} {c2 : Nat} {l : List Ac} {cap bb off : Nat} {kind xn xk : Int} {xt : List (List UInt8)} {xA : Option Addr} {xc : Nat}
    {x0 x2 x3 x4 x8 x11 x14 x15 x16 x17 x18 x19 x20 x21 x22 x23 x24 x25 x26 x27 x28 x29 x30 x31 x32 x33 x34 x35 x36 x37 x38 x39 x40 x41 x42 x43 x44 x45 x46 x47 x48 x49 x50 x51 x52 x53 x54 x55 x56 x57 x58 x59 x60 x61 x62 x63 x64 x65 x66 x67 x68 x69 x70 x71 x72 x73 x74 x75 x76 x77 x78 x79 x81 x82 x83 x84 x85 x86 x87 x88 x89 x90 x91 x92 x93 x94 x95 x96 x97 x98 x99 x100 x101 x102 x103 x104 x105 x106 x107 x108 x109 x110 x111 x112 x113 x114 x115 x116 x117 x118 x119 x120 x121 x122 x123 x124 x125 x126 x127 x128 x129 x130 x131 x132 x133 x134 x135 x136 x137 x138 x139 x140 x141 x142 x143 x144 x145 x146 x147 x148 x149 x150 x151 x152 x153 x154 x155 x156 x157 x158 x159 x160 x161 x162 x163 x164 x165 x166 x167 x168 x169 x170 x171 x172 x173 x174 x175 x176 x177 x178 x179 x180 x181 x182 x183 x184 x185 x186 x187 x188 x189 x190 x191 x192 x193 x194 x195 x196 x197 x198 x199 x200 x201 x202 x203 x204 x205 x206 x207 x208 x209 x210 x211 x212 x213 x214 x215 x216 x217 x218 x219 x220 x221 x222 x223 x224 x225 x226 x227 x228 x229 x230 x231 x232 x233 x234 : Value} {J K : Act → World → Prop} {Q : Exit → Act → World → Prop}
    (hk : kind = 9) (ht : Tab w) (hcap : cap ≤ maxLen) (hlc : l.length ≤ cap) (hlt : j < l.length) (hn : l.length ≤ 60) (hm : m ≤ 1000000 + 10 * j)
    (HAC : Hid (∀ (W : World), Old w W → ActAt W bb (off + j * 4) ⟨kind, xn, xk, xt, xA, xc⟩)) (hxS : Strs w xA xc xt) (hxc : xc ≤ maxLen) (hxl : xt.length ≤ 10) (HXM : Hid (∀ t ∈ xt, t.length ≤ 1000000)) (HXN : Hid (xn ≤ 9223372036854775807)) (HG : Hid (Good logN r))
    (h4 : St w w4 d lb br bx (nr r) m dead r A2 c2 (m : Int) dead)
    (hJ : ∀ (a' : Act) (w' : World), (∃ u4 u7 u9 u12 u14 u15 u16 u17 u18 u19 u20 u63 u64 u65 u66 u67 u68 u69 u70 u71 u72 u73 u74 u75 u76 u77 u78 u79 u80 u81 u82 u83 u84 u85 u86 u87 u88 u89 u90 u91 u92 u93 u94 u95 u96 u97 u98 u99 u100 u101 u102 u103 u104 u105 u106 u107 u108 u109 u110 u111 u112 u113 u114 u115 u116 u117 u118 u119 u120 u121 u122 u123 u124 u125 u126 u127 u128 u129 u130 u131 u132 u133 u134 u135 u136 u137 u138 u139 u140 u141 u142 u143 u144 u145 u146 u147 u148 u149 u150 u151 u152 u153 u154 u155 u156 u157 u158 u159 u160 u161 u162 u163 u164 u165 u166 u167 u168 u169 u170 u171 u172 u173 u174 u175 u176 u177 u178 u179 u180 u181 u182 u183 u184 u185 u186 u187 u188 u189 u190 u191 u192 u193 u194 u195 u196 u197 u198 u199 u200 u201 u202 u203 u204 u205 u206 u207 u208 u209 u210 u211 u212 u213 u214 u215 u216 u217 u218 u219 u220 u221 u222 u223 u224 u225 u226 u227 u228 u229 u230 u231 u232 u233 u234 : Value, (∃ (lb m : Nat) (dead : Bool) (r : Pd) (A : Option Addr) (c : Nat) (y : Int), u7 = ptr lb ∧ u9 = .int .i64 y ∧ u12 = .int .i64 y ∧ Hid (St w w' d lb br bx (nr r) m dead r A c (m : Int) dead ∧ Good logN r ∧ m ≤ 1000000 + 10 * (j + 1))) ∧
      a' = ⟨#[x0, .slice (some ⟨bb, off, none⟩) l.length cap, x2, x3, u4, ptr d, .pointer (some ⟨br, 0, none⟩), u7, x8, u9, .pointer (some ⟨bx, 0, none⟩), x11, u12, .int .i64 (j : Int), u14, u15, u16, u17, u18, u19, u20, x21, x22, x23, x24, x25, x26, x27, x28, x29, x30, x31, x32, x33, x34, x35, x36, x37, x38, x39, x40, x41, x42, x43, x44, x45, x46, x47, x48, x49, x50, x51, x52, x53, x54, x55, x56, x57, x58, x59, x60, x61, x62, u63, u64, u65, u66, u67, u68, u69, u70, u71, u72, u73, u74, u75, u76, u77, u78, u79, u80, u81, u82, u83, u84, u85, u86, u87, u88, u89, u90, u91, u92, u93, u94, u95, u96, u97, u98, u99, u100, u101, u102, u103, u104, u105, u106, u107, u108, u109, u110, u111, u112, u113, u114, u115, u116, u117, u118, u119, u120, u121, u122, u123, u124, u125, u126, u127, u128, u129, u130, u131, u132, u133, u134, u135, u136, u137, u138, u139, u140, u141, u142, u143, u144, u145, u146, u147, u148, u149, u150, u151, u152, u153, u154, u155, u156, u157, u158, u159, u160, u161, u162, u163, u164, u165, u166, u167, u168, u169, u170, u171, u172, u173, u174, u175, u176, u177, u178, u179, u180, u181, u182, u183, u184, u185, u186, u187, u188, u189, u190, u191, u192, u193, u194, u195, u196, u197, u198, u199, u200, u201, u202, u203, u204, u205, u206, u207, u208, u209, u210, u211, u212, u213, u214, u215, u216, u217, u218, u219, u220, u221, u222, u223, u224, u225, u226, u227, u228, u229, u230, u231, u232, u233, u234], []⟩) → J a' w') (hK : ∀ (a' : Act) (w' : World), Met J a' w' → K a' w') :
    Code.wp Tryd.prog sw (Exit.then K Q) ⟨#[x0, .slice (some ⟨bb, off, none⟩) l.length cap, x2, x3, x4, ptr d, .pointer (some ⟨br, 0, none⟩), ptr lb, x8, .int .i64 0, .pointer (some ⟨bx, 0, none⟩), x11, .int .i64 0, .int .i64 (j : Int), x14, x15, x16, x17, x18, x19, x20, x21, x22, x23, x24, x25, x26, x27, x28, x29, x30, x31, x32, x33, x34, x35, x36, x37, x38, x39, x40, x41, x42, x43, x44, x45, x46, x47, x48, x49, x50, x51, x52, x53, x54, x55, x56, x57, x58, x59, x60, x61, x62, x63, x64, x65, x66, x67, x68, x69, x70, x71, x72, x73, x74, x75, x76, x77, x78, x79, .int .i64 kind, x81, x82, x83, x84, x85, x86, x87, x88, x89, x90, x91, x92, x93, x94, x95, x96, x97, x98, x99, x100, x101, x102, x103, x104, x105, x106, x107, x108, x109, x110, x111, x112, x113, x114, x115, x116, x117, x118, x119, x120, x121, x122, x123, x124, x125, x126, x127, x128, x129, x130, x131, x132, x133, x134, x135, x136, x137, x138, x139, x140, x141, x142, x143, x144, x145, x146, x147, x148, x149, x150, x151, x152, x153, x154, x155, x156, x157, x158, x159, x160, x161, x162, x163, x164, x165, x166, x167, x168, x169, x170, x171, x172, x173, x174, x175, x176, x177, x178, x179, x180, x181, x182, x183, x184, x185, x186, x187, x188, x189, x190, x191, x192, x193, x194, x195, x196, x197, x198, x199, x200, x201, x202, x203, x204, x205, x206, x207, x208, x209, x210, x211, x212, x213, x214, x215, x216, x217, x218, x219, x220, x221, x222, x223, x224, x225, x226, x227, x228, x229, x230, x231, x232, x233, x234], []⟩ w4 := by
  have hU := Lib.hid (show _ ∧ _ ∧ _ ∧ _ ∧ _ ∧ _ ∧ _ ∧ _ from ⟨ht, hlc, hn, hxS, hxc, hxl, HXM, HXN⟩)
  clear hU
  conv => arg 2; whnf
  have hc2 : cap ≤ 2 ^ 63 - 1 := hcap
  have hj : j ≤ l.length := Nat.le_of_lt hlt
  obtain ⟨c0, c1', c2', c3⟩ := HAC.out w4 h4.lw.old
  simp only at c0 c1' c2' c3
  obtain ⟨capd, F, up, left, keep⟩ := r
  have hltI : (j : Int) < (l.length : Int) := by omega
  subst hk
  have hm4 : m ≤ 1000000 + 10 * (j + 1) := by omega
  have hGq : Good logN ⟨capd, F, true, 0, keep⟩ := ⟨HG.out.fin, HG.out.cap, Nat.zero_le _, HG.out.two⟩
  have HK := on_lw h4.lw
  rw [← nr_on] at HK
  simp only at HK
  go_wp2_with fail
  refine HK.mono ?_
  clear HK
  rintro e w5 ⟨rfl, h5, kr, kl⟩
  have q5 : Lg w5 lb d logN _ _ := kl (lb + 1) _ _ h4.lg (by omega)
  have s5 := h4.code kr h5 q5 h4.hl
  clear h4 h5 kr kl q5 c0 c1' c2' c3
  have y2 : w5.cell? ⟨br, 2, none⟩ = some (.bool (!up)) := s5.bd.at_ 2 rfl
  have yf2 := s5.bd.fr 2
  have s6 := s5.up
  clear s5
  simp only at s6
  go_upto_region 38 with (fail)
  generalize (w5.setCell ⟨br, 2, none⟩ (.bool false)) = w6 at *
  clear y2 yf2
  have y3 : w6.cell? ⟨br, 3, none⟩ = some (.int .i64 (left : Int)) := s6.bd.at_ 3 rfl
  have yf3 := s6.bd.fr 3
  have s7 : St w (w6.setCell ⟨br, 3, none⟩ (.int .i64 0)) d lb br bx (nr ⟨capd, F, true, 0, keep⟩) m dead ⟨capd, F, true, 0, keep⟩ A2 c2 (m : Int) dead := s6.left 0
  clear s6
  go_upto_region 39 with (fail)
  generalize (w6.setCell ⟨br, 3, none⟩ (.int .i64 0)) = w7 at *
  clear y3 yf3
  have hNO := nr_open ⟨capd, F, true, 0, keep⟩ logN
  have H := open_lw s7.lw ht nmG hGq.cap
  rw [hNO] at H
  clear hNO
  go_wp2_with fail
  refine H.mono ?_
  clear H
  rintro e w8 ⟨h8, kr, kl, hE⟩
  have q8 : Lg w8 lb d logN _ _ := kl (lb + 1) _ _ s7.lg (by omega)
  have s8 := s7.code kr h8 q8 s7.hl
  clear s7 h8 kr kl q8
  have HO2 := ropen_any A2 c2 ⟨capd, F, true, 0, keep⟩ logN hGq nmG w8 s8.ft
  have hGR := good_ropen hGq
  generalize ropen ⟨capd, F, true, 0, keep⟩ logN = R at *
  obtain ⟨⟨cap1, F1, up1, left1, keep1⟩, T, e1⟩ := R
  simp only at s8 hE hGR
  clear hGq
  rcases hE with ⟨rfl, lb2, A5, c5, rfl, hlb2, -, q8, -, hS8⟩ | ⟨hne, rfl⟩
  · have y0 : w8.cell? ⟨br, 0, none⟩ = some (.int .i64 (capd : Int)) := s8.bd.at_ 0 rfl
    have y1 : w8.cell? ⟨br, 1, none⟩ = some (.slice A2 F.length c2) := s8.bd.at_ 1 rfl
    have y2 : w8.cell? ⟨br, 2, none⟩ = some (.bool false) := s8.bd.at_ 2 rfl
    have y3 : w8.cell? ⟨br, 3, none⟩ = some (.int .i64 0) := s8.bd.at_ 3 rfl
    have y4 : w8.cell? ⟨br, 4, none⟩ = some (.int .i64 keep) := s8.bd.at_ 4 rfl
    go_wp2_with fail
    refine HO2.mono ?_
    clear HO2 y0 y1 y2 y3 y4
    rintro e w9 ⟨A3, c3x, hf, o9, ⟨-, TA2, tc2, rfl, hS9, hTs, hTl⟩ | ⟨hne, -⟩⟩
    case inr => exact absurd rfl hne
    have s9 := s8.old o9
    have hS8 := hS8.old o9
    have q9 := q8.old o9
    have s10 := s9.disk (r' := ⟨cap1, F1, up1, left1, keep1⟩) hf
    simp only at s10
    have oo := (old_alloc (((((w9.setCell ⟨br, 0, none⟩ (.int .i64 (cap1 : Int))).setCell ⟨br, 1, none⟩ (.slice A3 F1.length c3x)).setCell ⟨br, 2, none⟩ (.bool (!up1))).setCell ⟨br, 3, none⟩ (.int .i64 (left1 : Int))).setCell ⟨br, 4, none⟩ (.int .i64 keep1)) (.cells #[.int .i64 (cap1 : Int), .slice A3 F1.length c3x, .bool (!up1), .int .i64 (left1 : Int), .int .i64 keep1] 29)).al (.cells #[.string (B logN), .int .i64 (T.length : Int), .bool false] 36)
    have n11 := new_bk' ((((((w9.setCell ⟨br, 0, none⟩ (.int .i64 (cap1 : Int))).setCell ⟨br, 1, none⟩ (.slice A3 F1.length c3x)).setCell ⟨br, 2, none⟩ (.bool (!up1))).setCell ⟨br, 3, none⟩ (.int .i64 (left1 : Int))).setCell ⟨br, 4, none⟩ (.int .i64 keep1)).alloc (.cells #[.int .i64 (cap1 : Int), .slice A3 F1.length c3x, .bool (!up1), .int .i64 (left1 : Int), .int .i64 keep1] 29)) 36 #[.string (B logN), .int .i64 (T.length : Int), .bool false] (w9.heap.size + 1) (by simp [World.setCell])
    have hA := (hS8.bk (fun g cs hb => bfar5 hb (Bk.ne hb s9.bd (by decide)) (.int .i64 (cap1 : Int)) (.slice A3 F1.length c3x) (.bool (!up1)) (.int .i64 (left1 : Int)) (.int .i64 keep1))).old oo
    have hB := (hS9.bk (fun g cs hb => bfar5 hb (Bk.ne hb s9.bd (by decide)) (.int .i64 (cap1 : Int)) (.slice A3 F1.length c3x) (.bool (!up1)) (.int .i64 (left1 : Int)) (.int .i64 keep1))).old oo
    have q10 := (bfar5 q9 (Bk.ne q9 s9.bd (by decide)) (.int .i64 (cap1 : Int)) (.slice A3 F1.length c3x) (.bool (!up1)) (.int .i64 (left1 : Int)) (.int .i64 keep1)).old oo
    have s11 := s10.old oo
    have HH := Lib.hid (show _ ∧ _ ∧ _ ∧ _ ∧ _ from ⟨s11, hA, hB, q10, n11⟩)
    have y0 : w9.cell? ⟨br, 0, none⟩ = some (.int .i64 (capd : Int)) := s9.bd.at_ 0 rfl
    have y1 : w9.cell? ⟨br, 1, none⟩ = some (.slice A2 F.length c2) := s9.bd.at_ 1 rfl
    have y2 : w9.cell? ⟨br, 2, none⟩ = some (.bool false) := s9.bd.at_ 2 rfl
    have y3 : w9.cell? ⟨br, 3, none⟩ = some (.int .i64 0) := s9.bd.at_ 3 rfl
    have y4 : w9.cell? ⟨br, 4, none⟩ = some (.int .i64 keep) := s9.bd.at_ 4 rfl
    have yf0 := s9.bd.fr 0
    have yf1 := s9.bd.fr 1
    have yf2 := s9.bd.fr 2
    have yf3 := s9.bd.fr 3
    have yf4 := s9.bd.fr 4
    have ylt := s9.bd.lt
    clear s9 s10 s11 hf oo o9 hS8 hS9 hA hB q9 q10 n11
    go_upto_region 42 with (fail)
    obtain ⟨s11, hA, hB, q10, n11⟩ := HH.out
    clear HH y0 y1 y2 y3 y4 yf0 yf1 yf2 yf3 yf4 ylt
    generalize (((((((w9.setCell ⟨br, 0, none⟩ (.int .i64 (cap1 : Int))).setCell ⟨br, 1, none⟩ (.slice A3 F1.length c3x)).setCell ⟨br, 2, none⟩ (.bool (!up1))).setCell ⟨br, 3, none⟩ (.int .i64 (left1 : Int))).setCell ⟨br, 4, none⟩ (.int .i64 keep1)).alloc (.cells #[.int .i64 (cap1 : Int), .slice A3 F1.length c3x, .bool (!up1), .int .i64 (left1 : Int), .int .i64 keep1] 29)).alloc (.cells #[.string (B logN), .int .i64 (T.length : Int), .bool false] 36)) = w11 at *
    generalize w9.heap.size + 1 = bz at *
    have H := same_texts T T A5 TA2 c5 tc2 hTl hTl w11 (hA.strs hTs) (hB.strs hTs) true (by simp)
    go_wp2_with fail
    refine H.mono ?_
    clear H
    rintro e w12 ⟨rfl, o12⟩
    have s12 := (s11.old o12).code (Kr.of_old (Old.re _)) (s11.old o12).lw (q10.old o12) hlb2
    have n12 := n11.old o12
    have hmT : T.length ≤ 1000000 + 10 * (j + 1) := by omega
    clear s11 q10 n11 hA hB o12
    have z0 : w12.cell? ⟨bz, 0, none⟩ = some (.string (B logN)) := n12.at_ 0 rfl
    have z1 : w12.cell? ⟨bz, 1, none⟩ = some (.int .i64 (T.length : Int)) := n12.at_ 1 rfl
    have z2 : w12.cell? ⟨bz, 2, none⟩ = some (.bool false) := n12.at_ 2 rfl
    have v0 : w12.cell? ⟨bx, 0, none⟩ = some (.string (B logN)) := s12.bl.at_ 0 rfl
    have v1 : w12.cell? ⟨bx, 1, none⟩ = some (.int .i64 (m : Int)) := s12.bl.at_ 1 rfl
    have v2 : w12.cell? ⟨bx, 2, none⟩ = some (.bool dead) := s12.bl.at_ 2 rfl
    have vf0 := s12.bl.fr 0
    have vf1 := s12.bl.fr 1
    have vf2 := s12.bl.fr 2
    have HF := Lib.hid (show _ ∧ _ ∧ _ from ⟨s12.log (T.length : Int) false, hGR, hmT⟩)
    clear s12 n12 hGR hmT
    go_wp2
    go_meet
    case rel => exact ⟨lb2, T.length, false, ⟨cap1, F1, up1, left1, keep1⟩, A3, c3x, 0, rfl, rfl, rfl, HF⟩
  · have y0 : w8.cell? ⟨br, 0, none⟩ = some (.int .i64 (capd : Int)) := s8.bd.at_ 0 rfl
    have y1 : w8.cell? ⟨br, 1, none⟩ = some (.slice A2 F.length c2) := s8.bd.at_ 1 rfl
    have y2 : w8.cell? ⟨br, 2, none⟩ = some (.bool false) := s8.bd.at_ 2 rfl
    have y3 : w8.cell? ⟨br, 3, none⟩ = some (.int .i64 0) := s8.bd.at_ 3 rfl
    have y4 : w8.cell? ⟨br, 4, none⟩ = some (.int .i64 keep) := s8.bd.at_ 4 rfl
    go_wp2_with fail
    refine HO2.mono ?_
    clear HO2 y0 y1 y2 y3 y4
    rintro e w9 ⟨A3, c3x, hf, o9, ⟨hz2, -⟩ | ⟨-, rfl⟩⟩
    case inl => exact absurd hz2 hne
    have s9 := s8.old o9
    have s10 := s9.disk (r' := ⟨cap1, F1, up1, left1, keep1⟩) hf
    simp only at s10
    have oo := (old_alloc (((((w9.setCell ⟨br, 0, none⟩ (.int .i64 (cap1 : Int))).setCell ⟨br, 1, none⟩ (.slice A3 F1.length c3x)).setCell ⟨br, 2, none⟩ (.bool (!up1))).setCell ⟨br, 3, none⟩ (.int .i64 (left1 : Int))).setCell ⟨br, 4, none⟩ (.int .i64 keep1)) (.cells #[.int .i64 (cap1 : Int), .slice A3 F1.length c3x, .bool (!up1), .int .i64 (left1 : Int), .int .i64 keep1] 29)).al (.cells #[.string { data := #[] }, .int .i64 0, .bool false] 36)
    have s11 := s10.old oo
    have HH := Lib.hid s11
    have y0 : w9.cell? ⟨br, 0, none⟩ = some (.int .i64 (capd : Int)) := s9.bd.at_ 0 rfl
    have y1 : w9.cell? ⟨br, 1, none⟩ = some (.slice A2 F.length c2) := s9.bd.at_ 1 rfl
    have y2 : w9.cell? ⟨br, 2, none⟩ = some (.bool false) := s9.bd.at_ 2 rfl
    have y3 : w9.cell? ⟨br, 3, none⟩ = some (.int .i64 0) := s9.bd.at_ 3 rfl
    have y4 : w9.cell? ⟨br, 4, none⟩ = some (.int .i64 keep) := s9.bd.at_ 4 rfl
    have yf0 := s9.bd.fr 0
    have yf1 := s9.bd.fr 1
    have yf2 := s9.bd.fr 2
    have yf3 := s9.bd.fr 3
    have yf4 := s9.bd.fr 4
    have ylt := s9.bd.lt
    clear s9 s10 s11 hf oo o9
    go_upto_region 42 with (fail)
    have s11 := HH.out
    clear HH y0 y1 y2 y3 y4 yf0 yf1 yf2 yf3 yf4 ylt
    generalize (((((((w9.setCell ⟨br, 0, none⟩ (.int .i64 (cap1 : Int))).setCell ⟨br, 1, none⟩ (.slice A3 F1.length c3x)).setCell ⟨br, 2, none⟩ (.bool (!up1))).setCell ⟨br, 3, none⟩ (.int .i64 (left1 : Int))).setCell ⟨br, 4, none⟩ (.int .i64 keep1)).alloc (.cells #[.int .i64 (cap1 : Int), .slice A3 F1.length c3x, .bool (!up1), .int .i64 (left1 : Int), .int .i64 keep1] 29)).alloc (.cells #[.string { data := #[] }, .int .i64 0, .bool false] 36)) = w11 at *
    have H := same_texts [] [] none none 0 0 (by decide) (by decide) w11 (strs_nil _ _ _) (strs_nil _ _ _) true rfl
    have heb : (e1 == 0) = false := by simpa using hne
    go_wp2_with fail
    refine H.mono ?_
    clear H
    rintro e w12 ⟨rfl, o12⟩
    have HF := Lib.hid (show _ ∧ _ ∧ _ from ⟨s11.old o12, hGR, hm4⟩)
    clear s11 o12 hGR
    go_wp2
    go_meet
    case rel => exact ⟨lb, m, dead, ⟨cap1, F1, up1, left1, keep1⟩, A3, c3x, 0, rfl, rfl, rfl, HF⟩
end Go.Proofs.YtilimfbjkgeciaaDoor
