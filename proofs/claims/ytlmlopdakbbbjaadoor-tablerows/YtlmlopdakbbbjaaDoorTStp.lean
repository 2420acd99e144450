/-
  Stamp of table. Conditions: the table is laid; lengths as written.
-/
import Derived.Test.YtlmlopdakbbbjaaDoorTCls
namespace Go.Proofs.YtlmlopdakbbbjaaDoor
open Go.RowKit

theorem tbl_head (l : List Cel) (q : Nat) : (tbl l q).take ((tbl l q).length - 26) = allB l ++ idx (texts l) ++ put (filt l) := by
  have : (tbl l q).length - 26 = (allB l ++ idx (texts l) ++ put (filt l)).length := by
    rw [tbl, List.length_append, ftx_len]; omega
  rw [this, tbl, List.take_left']
  rfl
theorem str_to (s : List UInt8) (n : Nat) (hn : n ≤ s.length) (hs : s.length ≤ 1000000) (W : World) : (Instr.slice 9 (.string (B s)) none (some (.int .i64 (n : Int))) none).run Tryd.prog W = .ok (.string (B (s.take n))) W := by
  have xt : (B s).extract 0 n = B (s.take n) := ext_take _ _
  go_simp
/-- What Stamp answers. -/
def StampP (s : List UInt8) (q : Nat) (e : Ending) : Prop := (openO s = none ∧ e = .returned (.tuple #[.string ⟨#[]⟩, .int .i64 (openE s)])) ∨ ∃ l q0, openO s = some (l, q0) ∧ e = .returned (.tuple #[.string (B (tbl l q)), .int .i64 0])
theorem Bk.six6 {W : World} {g : Nat} {t : TypeId} {u0 u1 u2 u3 u4 u5 : Value} (h : Bk W g t #[u0, u1, u2, u3, u4, u5]) :
    W.cell? ⟨g, 0, none⟩ = some u0 ∧ W.cell? ⟨g, 1, none⟩ = some u1 ∧ W.cell? ⟨g, 2, none⟩ = some u2 ∧ W.cell? ⟨g, 3, none⟩ = some u3 := by
  obtain ⟨a0, a1, a2, a3, -, -⟩ := h.six
  exact ⟨a0, a1, a2, a3⟩
set_option maxRecDepth 100000 in
set_option maxHeartbeats 8000000 in
theorem stamp_any (s : List UInt8) (q : Nat) (hs : s.length ≤ 400000) (hq : q < 18446744073709551616) (w : World) (ht : Tab w) :
    Calls Tryd.prog 11 #[.string (B s), .int .u64 q] w fun e w' => StampP s q e ∧ Old w w' := by
  go_enter Tryd.func11, Tryd.ntmps11
  go_wp2_with fail
  refine (open_any s hs _ ht).mono ?_
  rintro e w1 ⟨k1, ⟨hN, rfl⟩ | ⟨l, q0, g, hO, hg, rfl, hT⟩⟩
  · have hne : openE s ≠ 0 := fun h => by have := openO_E.1 h; rw [hN] at this; cases this
    have hbe : (openE s != 0) = true := by simpa using hne
    have HN := Lib.hid hN
    clear hN hne
    go_wp2
    go_ret2
    exact ⟨.inl ⟨HN.out, rfl⟩, k1⟩
  · obtain ⟨he, -, htb, -, -, h26, -⟩ := openO_some hO
    have hh := tbl_head l q0
    rw [htb] at hh
    have HO := Lib.hid hO
    have HT := Lib.hid (show tbl l q = allB l ++ idx (texts l) ++ put (filt l) ++ ftx (allB l).length (idx (texts l)).length (put (filt l)).length q from rfl)
    have h1 := allB_len he
    have h2 := (errT_zero.1 he).1
    have h3 := (filt_len l h2).1
    have h4 := idx_len (texts l)
    rw [texts_len] at h4
    have a1 : (allB l).length < 18446744073709551616 := by omega
    have a2 : (idx (texts l)).length < 18446744073709551616 := by omega
    have a3 : (put (filt l)).length < 18446744073709551616 := by omega
    have xt : (B s).extract 0 (s.length - 26) = B (s.take (s.length - 26)) := ext_take _ _
    rw [hh] at xt
    have hh2 := hh
    have hhl : (allB l ++ idx (texts l) ++ put (filt l)).length ≤ 400000 := by rw [← hh]; simp; omega
    obtain ⟨v, hB, hC⟩ := hT
    clear hO he htb hh h1 h2 h3 h4 hC
    generalize allB l ++ idx (texts l) ++ put (filt l) = hd at *
    generalize (allB l).length = x0 at *
    generalize (idx (texts l)).length = x1 at *
    generalize (put (filt l)).length = x2 at *
    generalize filt l = x5 at *
    have hfx := ftx_len x0 x1 x2 q
    obtain ⟨z0, z1, z2, z3, z4, z5⟩ := hB.six
    have fr := hB.fr
    go_upto_region 5 with (fail)
    have hB2 : Bk (w1.setCell ⟨g, 3, none⟩ (.int .u64 q)) g 58 #[.int .u64 x0, .int .u64 x1, .int .u64 x2, .int .u64 q, v, .string (B x5)] := hB.set_ 3 _
    have o2 := k1.st (p := ⟨g, 3, none⟩) hg (.int .u64 q)
    clear z0 z1 z2 z3 z4 z5 fr hB
    generalize w1.setCell ⟨g, 3, none⟩ (.int .u64 q) = w2 at *
    have hm1 : s.length - 26 ≤ s.length := Nat.sub_le _ _
    have e26 : (s.length : Int) - 26 = ((s.length - 26 : Nat) : Int) := by omega
    have w26 : IntKind.i64.wrap ((s.length - 26 : Nat) : Int) = ((s.length - 26 : Nat) : Int) := by rw [IntKind.wrap_i64]; omega
    have HSL := fun W => str_to s (s.length - 26) hm1 (by omega) W
    rw [hh2] at HSL
    clear hs h26 xt
    generalize s.length - 26 = m at *
    have TX := fun W (hW : Old w2 W) => text_any x0 x1 x2 q a1 a2 a3 hq W (ht.old (o2.tr hW))
    generalize ftx x0 x1 x2 q = fx at *
    go_region_held_law (fun W => W.cell? ⟨g, 0, none⟩ = some (.int .u64 x0) ∧ W.cell? ⟨g, 1, none⟩ = some (.int .u64 x1) ∧ W.cell? ⟨g, 2, none⟩ = some (.int .u64 x2) ∧ W.cell? ⟨g, 3, none⟩ = some (.int .u64 q))
      (first
        | exact (Bk.six6 (hB2.old o3))
        | exact (Bk.six6 (hB2.old (by repeat (first | with_reducible exact Old.re _ | with_reducible assumption | with_reducible apply Old.al | with_reducible apply Old.dr | with_reducible apply Old.dn)))))
      ((go_at_call 27; refine (TX _ (by repeat (first | with_reducible exact Old.re _ | with_reducible assumption | with_reducible apply Old.al | with_reducible apply Old.dr | with_reducible apply Old.dn))).mono ?_; rintro e w3 ⟨rfl, k3⟩; have o3 : Old w2 w3 := Old.tr (by repeat (first | with_reducible exact Old.re _ | with_reducible assumption | with_reducible apply Old.al | with_reducible apply Old.dr | with_reducible apply Old.dn)) k3; clear k3))
    have HR := Lib.hid (show (Ending.returned (.tuple #[.string (B hd ++ B fx), .int .i64 0])) = .returned (.tuple #[.string (B (tbl l q)), .int .i64 0]) by rw [HT.out, add_B])
    have o4 := o2.tr o3
    clear TX HSL
    go_wp2
    go_ret2
    exact ⟨.inr ⟨l, q0, HO.out, HR.out⟩, o4⟩
end Go.Proofs.YtlmlopdakbbbjaaDoor
