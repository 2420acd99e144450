/-
  WalActs' round, by the act's kind: Fuse. Conditions: the law's own state, as it stands ahead of the switch.
-/
import Derived.Test.YtilimfbjkgeciaaDoorRSS
import Derived.StillTailTactics
import Derived.Deep.CutBlock
import Derived.Deep.CutRange
import Derived.Deep.RegionHeldLaw
import Derived.Laws.Small
namespace Go.Proofs.YtilimfbjkgeciaaDoor
open Go.ChangeShapes Go.WideShapes Go.ChangeAt Go.RowKit Go.Joins Go.Deep Go.Maps Go.Shelf
set_option maxRecDepth 100000

set_option maxHeartbeats 64000000 in
theorem act_k5 {w w4 : World} {d lb br bx m j : Nat} {dead : Bool} {r : Pd} {A2 : Option Addr} {c2 : Nat} {l : List Ac} {cap bb off : Nat} {kind xn xk : Int} {xt : List (List UInt8)} {xA : Option Addr} {xc : Nat}
    {x0 x2 x3 x4 x8 x11 x14 x15 x16 x17 x18 x19 x20 x21 x22 x23 x24 x25 x26 x27 x28 x29 x30 x31 x32 x33 x34 x35 x36 x37 x38 x39 x40 x41 x42 x43 x44 x45 x46 x47 x48 x49 x50 x51 x52 x53 x54 x55 x56 x57 x58 x59 x60 x61 x62 x63 x64 x65 x66 x67 x68 x69 x70 x71 x72 x73 x74 x75 x76 x77 x78 x79 x81 x82 x83 x84 x85 x86 x87 x88 x89 x90 x91 x92 x93 x94 x95 x96 x97 x98 x99 x100 x101 x102 x103 x104 x105 x106 x107 x108 x109 x110 x111 x112 x113 x114 x115 x116 x117 x118 x119 x120 x121 x122 x123 x124 x125 x126 x127 x128 x129 x130 x131 x132 x133 x134 x135 x136 x137 x138 x139 x140 x141 x142 x143 x144 x145 x146 x147 x148 x149 x150 x151 x152 x153 x154 x155 x156 x157 x158 x159 x160 x161 x162 x163 x164 x165 x166 x167 x168 x169 x170 x171 x172 x173 x174 x175 x176 x177 x178 x179 x180 x181 x182 x183 x184 x185 x186 x187 x188 x189 x190 x191 x192 x193 x194 x195 x196 x197 x198 x199 x200 x201 x202 x203 x204 x205 x206 x207 x208 x209 x210 x211 x212 x213 x214 x215 x216 x217 x218 x219 x220 x221 x222 x223 x224 x225 x226 x227 x228 x229 x230 x231 x232 x233 x234 : Value} {J K : Act → World → Prop} {Q : Exit → Act → World → Prop}
    (hk : kind = 5) (ht : Tab w) (hcap : cap ≤ maxLen) (hlc : l.length ≤ cap) (hlt : j < l.length) (hn : l.length ≤ 60) (hm : m ≤ 1000000 + 10 * j)
    (HAC : Hid (∀ (W : World), Old w W → ActAt W bb (off + j * 4) ⟨kind, xn, xk, xt, xA, xc⟩)) (hxS : Strs w xA xc xt) (hxc : xc ≤ maxLen) (hxl : xt.length ≤ 10) (HXM : Hid (∀ t ∈ xt, t.length ≤ 1000000)) (HXN : Hid (xn ≤ 9223372036854775807)) (HG : Hid (Good logN r))
    (h4 : St w w4 d lb br bx (nr r) m dead r A2 c2 (m : Int) dead)
    (hJ : ∀ (a' : Act) (w' : World), (∃ u4 u7 u9 u12 u14 u15 u16 u17 u18 u19 u20 u63 u64 u65 u66 u67 u68 u69 u70 u71 u72 u73 u74 u75 u76 u77 u78 u79 u80 u81 u82 u83 u84 u85 u86 u87 u88 u89 u90 u91 u92 u93 u94 u95 u96 u97 u98 u99 u100 u101 u102 u103 u104 u105 u106 u107 u108 u109 u110 u111 u112 u113 u114 u115 u116 u117 u118 u119 u120 u121 u122 u123 u124 u125 u126 u127 u128 u129 u130 u131 u132 u133 u134 u135 u136 u137 u138 u139 u140 u141 u142 u143 u144 u145 u146 u147 u148 u149 u150 u151 u152 u153 u154 u155 u156 u157 u158 u159 u160 u161 u162 u163 u164 u165 u166 u167 u168 u169 u170 u171 u172 u173 u174 u175 u176 u177 u178 u179 u180 u181 u182 u183 u184 u185 u186 u187 u188 u189 u190 u191 u192 u193 u194 u195 u196 u197 u198 u199 u200 u201 u202 u203 u204 u205 u206 u207 u208 u209 u210 u211 u212 u213 u214 u215 u216 u217 u218 u219 u220 u221 u222 u223 u224 u225 u226 u227 u228 u229 u230 u231 u232 u233 u234 : Value, (∃ (lb m : Nat) (dead : Bool) (r : Pd) (A : Option Addr) (c : Nat) (y : Int), u7 = ptr lb ∧ u9 = .int .i64 y ∧ u12 = .int .i64 y ∧ Hid (St w w' d lb br bx (nr r) m dead r A c (m : Int) dead ∧ Good logN r ∧ m ≤ 1000000 + 10 * (j + 1))) ∧
      a' = ⟨#[x0, .slice (some ⟨bb, off, none⟩) l.length cap, x2, x3, u4, ptr d, .pointer (some ⟨br, 0, none⟩), u7, x8, u9, .pointer (some ⟨bx, 0, none⟩), x11, u12, .int .i64 (j : Int), u14, u15, u16, u17, u18, u19, u20, x21, x22, x23, x24, x25, x26, x27, x28, x29, x30, x31, x32, x33, x34, x35, x36, x37, x38, x39, x40, x41, x42, x43, x44, x45, x46, x47, x48, x49, x50, x51, x52, x53, x54, x55, x56, x57, x58, x59, x60, x61, x62, u63, u64, u65, u66, u67, u68, u69, u70, u71, u72, u73, u74, u75, u76, u77, u78, u79, u80, u81, u82, u83, u84, u85, u86, u87, u88, u89, u90, u91, u92, u93, u94, u95, u96, u97, u98, u99, u100, u101, u102, u103, u104, u105, u106, u107, u108, u109, u110, u111, u112, u113, u114, u115, u116, u117, u118, u119, u120, u121, u122, u123, u124, u125, u126, u127, u128, u129, u130, u131, u132, u133, u134, u135, u136, u137, u138, u139, u140, u141, u142, u143, u144, u145, u146, u147, u148, u149, u150, u151, u152, u153, u154, u155, u156, u157, u158, u159, u160, u161, u162, u163, u164, u165, u166, u167, u168, u169, u170, u171, u172, u173, u174, u175, u176, u177, u178, u179, u180, u181, u182, u183, u184, u185, u186, u187, u188, u189, u190, u191, u192, u193, u194, u195, u196, u197, u198, u199, u200, u201, u202, u203, u204, u205, u206, u207, u208, u209, u210, u211, u212, u213, u214, u215, u216, u217, u218, u219, u220, u221, u222, u223, u224, u225, u226, u227, u228, u229, u230, u231, u232, u233, u234], []⟩) → J a' w') (hK : ∀ (a' : Act) (w' : World), Met J a' w' → K a' w') :
    Code.wp Tryd.prog sw (Exit.then K Q) ⟨#[x0, .slice (some ⟨bb, off, none⟩) l.length cap, x2, x3, x4, ptr d, .pointer (some ⟨br, 0, none⟩), ptr lb, x8, .int .i64 0, .pointer (some ⟨bx, 0, none⟩), x11, .int .i64 0, .int .i64 (j : Int), x14, x15, x16, x17, x18, x19, x20, x21, x22, x23, x24, x25, x26, x27, x28, x29, x30, x31, x32, x33, x34, x35, x36, x37, x38, x39, x40, x41, x42, x43, x44, x45, x46, x47, x48, x49, x50, x51, x52, x53, x54, x55, x56, x57, x58, x59, x60, x61, x62, x63, x64, x65, x66, x67, x68, x69, x70, x71, x72, x73, x74, x75, x76, x77, x78, x79, .int .i64 kind, x81, x82, x83, x84, x85, x86, x87, x88, x89, x90, x91, x92, x93, x94, x95, x96, x97, x98, x99, x100, x101, x102, x103, x104, x105, x106, x107, x108, x109, x110, x111, x112, x113, x114, x115, x116, x117, x118, x119, x120, x121, x122, x123, x124, x125, x126, x127, x128, x129, x130, x131, x132, x133, x134, x135, x136, x137, x138, x139, x140, x141, x142, x143, x144, x145, x146, x147, x148, x149, x150, x151, x152, x153, x154, x155, x156, x157, x158, x159, x160, x161, x162, x163, x164, x165, x166, x167, x168, x169, x170, x171, x172, x173, x174, x175, x176, x177, x178, x179, x180, x181, x182, x183, x184, x185, x186, x187, x188, x189, x190, x191, x192, x193, x194, x195, x196, x197, x198, x199, x200, x201, x202, x203, x204, x205, x206, x207, x208, x209, x210, x211, x212, x213, x214, x215, x216, x217, x218, x219, x220, x221, x222, x223, x224, x225, x226, x227, x228, x229, x230, x231, x232, x233, x234], []⟩ w4 := by
  have hU := Lib.hid (show _ ∧ _ ∧ _ ∧ _ ∧ _ ∧ _ ∧ _ ∧ _ from ⟨ht, hlc, hn, hxS, hxc, hxl, HXM, HXN⟩)
  clear hU
  conv => arg 2; whnf
  have hc2 : cap ≤ 2 ^ 63 - 1 := hcap
  have hj : j ≤ l.length := Nat.le_of_lt hlt
  obtain ⟨c0, c1', c2', c3⟩ := HAC.out w4 h4.lw.old
  simp only at c0 c1' c2' c3
  obtain ⟨capd, F, up, left, keep⟩ := r
  have hltI : (j : Int) < (l.length : Int) := by omega
  subst hk
  have hm4 : m ≤ 1000000 + 10 * (j + 1) := by omega
  have hGq : Good logN ⟨capd, F, up, xn.toNat, xk⟩ := ⟨HG.out.fin, HG.out.cap, by have := HXN.out; show xn.toNat ≤ _; omega, HG.out.two⟩
  have hmy : (if (0 : Int) > xn then 0 else xn) = ((xn.toNat : Nat) : Int) := by split <;> omega
  have hmz : (if xn < 0 then 0 else xn) = ((xn.toNat : Nat) : Int) := by split <;> omega
  have hmx : ∀ (W : World) (ts : Array TypeId) (t : TypeId), (Builtin.max_ ts t #[.int .i64 xn, .int .i64 0]).run Tryd.prog W = .ok (.int .i64 ((xn.toNat : Nat) : Int)) W := fun W ts t => by rw [run_max_int2, hmy]
  have HF := Lib.hid (fuse_lw (h4.lw.go (Old.re _).dr) xn xk HXN.out)
  go_upto_region 28 with (fail)
  go_still_tail 11, (by kernel_rfl)
  change wpList _ _ _ _ _ w4.drew
  have h5 := h4.old (Old.re _).dr
  clear h4 c0 c1' c2' c3
  generalize w4.drew = w5 at *
  go_wp2_with fail
  refine HF.out.mono ?_
  clear HF
  rintro e w6 ⟨rfl, h6, kr, kl⟩
  have q6 : Lg w6 lb d logN _ _ := kl (lb + 1) _ _ h5.lg (by omega)
  rw [← nr_fuse] at h6
  have s6 := h5.code kr h6 q6 h5.hl
  clear h5 h6 kr kl q6
  obtain ⟨c0, c1', c2', c3⟩ := HAC.out w6 s6.lw.old
  simp only at c0 c1' c2' c3
  have y0 : w6.cell? ⟨br, 0, none⟩ = some (.int .i64 (capd : Int)) := s6.bd.at_ 0 rfl
  have y1 : w6.cell? ⟨br, 1, none⟩ = some (.slice A2 F.length c2) := s6.bd.at_ 1 rfl
  have y2 : w6.cell? ⟨br, 2, none⟩ = some (.bool (!up)) := s6.bd.at_ 2 rfl
  have y3 : w6.cell? ⟨br, 3, none⟩ = some (.int .i64 (left : Int)) := s6.bd.at_ 3 rfl
  have y4 : w6.cell? ⟨br, 4, none⟩ = some (.int .i64 keep) := s6.bd.at_ 4 rfl
  have yf0 := s6.bd.fr 0
  have yf1 := s6.bd.fr 1
  have yf2 := s6.bd.fr 2
  have yf3 := s6.bd.fr 3
  have yf4 := s6.bd.fr 4
  go_upto_region 30 with (fail)
  clear hmx hmy hmz
  have hmM : max xn 0 = ((xn.toNat : Nat) : Int) := by omega
  rw [hmM]
  clear hmM
  have s7 := s6.left xn.toNat
  clear s6 c0 c1' c2' c3 y0 y1 y2 y3 y4 yf0 yf1 yf2 yf3 yf4
  generalize (w6.setCell ⟨br, 3, none⟩ (.int .i64 ((xn.toNat : Nat) : Int))) = w7 at *
  simp only at s7
  obtain ⟨c0, c1', c2', c3⟩ := HAC.out w7 s7.lw.old
  simp only at c0 c1' c2' c3
  have y4 : w7.cell? ⟨br, 4, none⟩ = some (.int .i64 keep) := s7.bd.at_ 4 rfl
  have yf4 := s7.bd.fr 4
  have s8 := s7.keep xk
  simp only at s8
  have HF := Lib.hid (show _ ∧ _ ∧ _ from ⟨s8, hGq, hm4⟩)
  clear s7 s8 hGq hm4
  go_wp2
  go_meet
  case rel => exact ⟨lb, m, dead, ⟨capd, F, up, xn.toNat, xk⟩, A2, c2, 0, rfl, rfl, rfl, HF⟩
set_option maxHeartbeats 64000000 in
theorem act_k6 {w w4 : World} {d lb br bx m j : Nat} {dead : Bool} {r : Pd} {A2 : Option Addr} {c2 : Nat} {l : List Ac} {cap bb off : Nat} {kind xn xk : Int} {xt : List (List UInt8)} {xA : Option Addr} {xc : Nat}
    {x0 x2 x3 x4 x8 x11 x14 x15 x16 x17 x18 x19 x20 x21 x22 x23 x24 x25 x26 x27 x28 x29 x30 x31 x32 x33 x34 x35 x36 x37 x38 x39 x40 x41 x42 x43 x44 x45 x46 x47 x48 x49 x50 x51 x52 x53 x54 x55 x56 x57 x58 x59 x60 x61 x62 x63 x64 x65 x66 x67 x68 x69 x70 x71 x72 x73 x74 x75 x76 x77 x78 x79 x81 x82 x83 x84 x85 x86 x87 x88 x89 x90 x91 x92 x93 x94 x95 x96 x97 x98 x99 x100 x101 x102 x103 x104 x105 x106 x107 x108 x109 x110 x111 x112 x113 x114 x115 x116 x117 x118 x119 x120 x121 x122 x123 x124 x125 x126 x127 x128 x129 x130 x131 x132 x133 x134 x135 x136 x137 x138 x139 x140 x141 x142 x143 x144 x145 x146 x147 x148 x149 x150 x151 x152 x153 x154 x155 x156 x157 x158 x159 x160 x161 x162 x163 x164 x165 x166 x167 x168 x169 x170 x171 x172 x173 x174 x175 x176 x177 x178 x179 x180 x181 x182 x183 x184 x185 x186 x187 x188 x189 x190 x191 x192 x193 x194 x195 x196 x197 x198 x199 x200 x201 x202 x203 x204 x205 x206 x207 x208 x209 x210 x211 x212 x213 x214 x215 x216 x217 x218 x219 x220 x221 x222 x223 x224 x225 x226 x227 x228 x229 x230 x231 x232 x233 x234 : Value} {J K : Act → World → Prop} {Q : Exit → Act → World → Prop}
    (hk : kind = 6) (ht : Tab w) (hcap : cap ≤ maxLen) (hlc : l.length ≤ cap) (hlt : j < l.length) (hn : l.length ≤ 60) (hm : m ≤ 1000000 + 10 * j)
    (HAC : Hid (∀ (W : World), Old w W → ActAt W bb (off + j * 4) ⟨kind, xn, xk, xt, xA, xc⟩)) (hxS : Strs w xA xc xt) (hxc : xc ≤ maxLen) (hxl : xt.length ≤ 10) (HXM : Hid (∀ t ∈ xt, t.length ≤ 1000000)) (HXN : Hid (xn ≤ 9223372036854775807)) (HG : Hid (Good logN r))
    (h4 : St w w4 d lb br bx (nr r) m dead r A2 c2 (m : Int) dead)
    (hJ : ∀ (a' : Act) (w' : World), (∃ u4 u7 u9 u12 u14 u15 u16 u17 u18 u19 u20 u63 u64 u65 u66 u67 u68 u69 u70 u71 u72 u73 u74 u75 u76 u77 u78 u79 u80 u81 u82 u83 u84 u85 u86 u87 u88 u89 u90 u91 u92 u93 u94 u95 u96 u97 u98 u99 u100 u101 u102 u103 u104 u105 u106 u107 u108 u109 u110 u111 u112 u113 u114 u115 u116 u117 u118 u119 u120 u121 u122 u123 u124 u125 u126 u127 u128 u129 u130 u131 u132 u133 u134 u135 u136 u137 u138 u139 u140 u141 u142 u143 u144 u145 u146 u147 u148 u149 u150 u151 u152 u153 u154 u155 u156 u157 u158 u159 u160 u161 u162 u163 u164 u165 u166 u167 u168 u169 u170 u171 u172 u173 u174 u175 u176 u177 u178 u179 u180 u181 u182 u183 u184 u185 u186 u187 u188 u189 u190 u191 u192 u193 u194 u195 u196 u197 u198 u199 u200 u201 u202 u203 u204 u205 u206 u207 u208 u209 u210 u211 u212 u213 u214 u215 u216 u217 u218 u219 u220 u221 u222 u223 u224 u225 u226 u227 u228 u229 u230 u231 u232 u233 u234 : Value, (∃ (lb m : Nat) (dead : Bool) (r : Pd) (A : Option Addr) (c : Nat) (y : Int), u7 = ptr lb ∧ u9 = .int .i64 y ∧ u12 = .int .i64 y ∧ Hid (St w w' d lb br bx (nr r) m dead r A c (m : Int) dead ∧ Good logN r ∧ m ≤ 1000000 + 10 * (j + 1))) ∧
      a' = ⟨#[x0, .slice (some ⟨bb, off, none⟩) l.length cap, x2, x3, u4, ptr d, .pointer (some ⟨br, 0, none⟩), u7, x8, u9, .pointer (some ⟨bx, 0, none⟩), x11, u12, .int .i64 (j : Int), u14, u15, u16, u17, u18, u19, u20, x21, x22, x23, x24, x25, x26, x27, x28, x29, x30, x31, x32, x33, x34, x35, x36, x37, x38, x39, x40, x41, x42, x43, x44, x45, x46, x47, x48, x49, x50, x51, x52, x53, x54, x55, x56, x57, x58, x59, x60, x61, x62, u63, u64, u65, u66, u67, u68, u69, u70, u71, u72, u73, u74, u75, u76, u77, u78, u79, u80, u81, u82, u83, u84, u85, u86, u87, u88, u89, u90, u91, u92, u93, u94, u95, u96, u97, u98, u99, u100, u101, u102, u103, u104, u105, u106, u107, u108, u109, u110, u111, u112, u113, u114, u115, u116, u117, u118, u119, u120, u121, u122, u123, u124, u125, u126, u127, u128, u129, u130, u131, u132, u133, u134, u135, u136, u137, u138, u139, u140, u141, u142, u143, u144, u145, u146, u147, u148, u149, u150, u151, u152, u153, u154, u155, u156, u157, u158, u159, u160, u161, u162, u163, u164, u165, u166, u167, u168, u169, u170, u171, u172, u173, u174, u175, u176, u177, u178, u179, u180, u181, u182, u183, u184, u185, u186, u187, u188, u189, u190, u191, u192, u193, u194, u195, u196, u197, u198, u199, u200, u201, u202, u203, u204, u205, u206, u207, u208, u209, u210, u211, u212, u213, u214, u215, u216, u217, u218, u219, u220, u221, u222, u223, u224, u225, u226, u227, u228, u229, u230, u231, u232, u233, u234], []⟩) → J a' w') (hK : ∀ (a' : Act) (w' : World), Met J a' w' → K a' w') :
    Code.wp Tryd.prog sw (Exit.then K Q) ⟨#[x0, .slice (some ⟨bb, off, none⟩) l.length cap, x2, x3, x4, ptr d, .pointer (some ⟨br, 0, none⟩), ptr lb, x8, .int .i64 0, .pointer (some ⟨bx, 0, none⟩), x11, .int .i64 0, .int .i64 (j : Int), x14, x15, x16, x17, x18, x19, x20, x21, x22, x23, x24, x25, x26, x27, x28, x29, x30, x31, x32, x33, x34, x35, x36, x37, x38, x39, x40, x41, x42, x43, x44, x45, x46, x47, x48, x49, x50, x51, x52, x53, x54, x55, x56, x57, x58, x59, x60, x61, x62, x63, x64, x65, x66, x67, x68, x69, x70, x71, x72, x73, x74, x75, x76, x77, x78, x79, .int .i64 kind, x81, x82, x83, x84, x85, x86, x87, x88, x89, x90, x91, x92, x93, x94, x95, x96, x97, x98, x99, x100, x101, x102, x103, x104, x105, x106, x107, x108, x109, x110, x111, x112, x113, x114, x115, x116, x117, x118, x119, x120, x121, x122, x123, x124, x125, x126, x127, x128, x129, x130, x131, x132, x133, x134, x135, x136, x137, x138, x139, x140, x141, x142, x143, x144, x145, x146, x147, x148, x149, x150, x151, x152, x153, x154, x155, x156, x157, x158, x159, x160, x161, x162, x163, x164, x165, x166, x167, x168, x169, x170, x171, x172, x173, x174, x175, x176, x177, x178, x179, x180, x181, x182, x183, x184, x185, x186, x187, x188, x189, x190, x191, x192, x193, x194, x195, x196, x197, x198, x199, x200, x201, x202, x203, x204, x205, x206, x207, x208, x209, x210, x211, x212, x213, x214, x215, x216, x217, x218, x219, x220, x221, x222, x223, x224, x225, x226, x227, x228, x229, x230, x231, x232, x233, x234], []⟩ w4 := by
  have hU := Lib.hid (show _ ∧ _ ∧ _ ∧ _ ∧ _ ∧ _ ∧ _ ∧ _ from ⟨ht, hlc, hn, hxS, hxc, hxl, HXM, HXN⟩)
  clear hU
  conv => arg 2; whnf
  have hc2 : cap ≤ 2 ^ 63 - 1 := hcap
  have hj : j ≤ l.length := Nat.le_of_lt hlt
  obtain ⟨c0, c1', c2', c3⟩ := HAC.out w4 h4.lw.old
  simp only at c0 c1' c2' c3
  obtain ⟨capd, F, up, left, keep⟩ := r
  have hltI : (j : Int) < (l.length : Int) := by omega
  subst hk
  have hm4 : m ≤ 1000000 + 10 * (j + 1) := by omega
  have hGq : Good logN ⟨capd, F, up, xn.toNat, xk⟩ := ⟨HG.out.fin, HG.out.cap, by have := HXN.out; show xn.toNat ≤ _; omega, HG.out.two⟩
  have hmy : (if (0 : Int) > xn then 0 else xn) = ((xn.toNat : Nat) : Int) := by split <;> omega
  have hmz : (if xn < 0 then 0 else xn) = ((xn.toNat : Nat) : Int) := by split <;> omega
  have hmx : ∀ (W : World) (ts : Array TypeId) (t : TypeId), (Builtin.max_ ts t #[.int .i64 xn, .int .i64 0]).run Tryd.prog W = .ok (.int .i64 ((xn.toNat : Nat) : Int)) W := fun W ts t => by rw [run_max_int2, hmy]
  have HF := Lib.hid (fuse_lw (h4.lw.go (Old.re _).dr) xn xk HXN.out)
  go_upto_region 28 with (fail)
  go_still_tail 11, (by kernel_rfl)
  change wpList _ _ _ _ _ w4.drew
  have h5 := h4.old (Old.re _).dr
  clear h4 c0 c1' c2' c3
  generalize w4.drew = w5 at *
  go_wp2_with fail
  refine HF.out.mono ?_
  clear HF
  rintro e w6 ⟨rfl, h6, kr, kl⟩
  have q6 : Lg w6 lb d logN _ _ := kl (lb + 1) _ _ h5.lg (by omega)
  rw [← nr_fuse] at h6
  have s6 := h5.code kr h6 q6 h5.hl
  clear h5 h6 kr kl q6
  obtain ⟨c0, c1', c2', c3⟩ := HAC.out w6 s6.lw.old
  simp only at c0 c1' c2' c3
  have y0 : w6.cell? ⟨br, 0, none⟩ = some (.int .i64 (capd : Int)) := s6.bd.at_ 0 rfl
  have y1 : w6.cell? ⟨br, 1, none⟩ = some (.slice A2 F.length c2) := s6.bd.at_ 1 rfl
  have y2 : w6.cell? ⟨br, 2, none⟩ = some (.bool (!up)) := s6.bd.at_ 2 rfl
  have y3 : w6.cell? ⟨br, 3, none⟩ = some (.int .i64 (left : Int)) := s6.bd.at_ 3 rfl
  have y4 : w6.cell? ⟨br, 4, none⟩ = some (.int .i64 keep) := s6.bd.at_ 4 rfl
  have yf0 := s6.bd.fr 0
  have yf1 := s6.bd.fr 1
  have yf2 := s6.bd.fr 2
  have yf3 := s6.bd.fr 3
  have yf4 := s6.bd.fr 4
  go_upto_region 30 with (fail)
  clear hmx hmy hmz
  have hmM : max xn 0 = ((xn.toNat : Nat) : Int) := by omega
  rw [hmM]
  clear hmM
  have s7 := s6.left xn.toNat
  clear s6 c0 c1' c2' c3 y0 y1 y2 y3 y4 yf0 yf1 yf2 yf3 yf4
  generalize (w6.setCell ⟨br, 3, none⟩ (.int .i64 ((xn.toNat : Nat) : Int))) = w7 at *
  simp only at s7
  obtain ⟨c0, c1', c2', c3⟩ := HAC.out w7 s7.lw.old
  simp only at c0 c1' c2' c3
  have y4 : w7.cell? ⟨br, 4, none⟩ = some (.int .i64 keep) := s7.bd.at_ 4 rfl
  have yf4 := s7.bd.fr 4
  have s8 := s7.keep xk
  simp only at s8
  have HF := Lib.hid (show _ ∧ _ ∧ _ from ⟨s8, hGq, hm4⟩)
  clear s7 s8 hGq hm4
  go_wp2
  go_meet
  case rel => exact ⟨lb, m, dead, ⟨capd, F, up, xn.toNat, xk⟩, A2, c2, 0, rfl, rfl, rfl, HF⟩
end Go.Proofs.YtilimfbjkgeciaaDoor
