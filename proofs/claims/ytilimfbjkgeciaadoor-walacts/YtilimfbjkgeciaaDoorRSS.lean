/-
  Texts in one: RSt RSw. Conditions: as each theorem writes them.
-/
import Derived.Test.YtilimfbjkgeciaaDoorROpn
namespace Go.Proofs.YtilimfbjkgeciaaDoor
set_option maxRecDepth 100000
open Go.RowKit Go.Maps Go.Shelf

/-- What is no disk's and no log's. -/
def Own4 (t : TypeId) : Prop := t = 29 ∨ t = 36
theorem Lw.far {w w1 : World} {d : Nat} {p : Pd} (h : Lw w w1 d p) {g : Nat} {t : TypeId} {cs : Array Value} (b : Bk w1 g t cs) (ht : Own4 t) (hg : w.heap.size ≤ g) (o : Nat) (u : Value) : Lw w (w1.setCell ⟨g, o, none⟩ u) d p := by
  obtain ⟨k, h1, h2, h3, h4⟩ := h.ex
  refine ⟨⟨k, h1, h2, h3.set_far u ?_, h4⟩, h.old.st (p := ⟨g, o, none⟩) hg u⟩
  rcases ht with rfl | rfl <;> exact h3.other b (by decide) (by decide) (by decide) (by decide)
/-- The law's state: its disk and its log; the document's own, each in a box. -/
structure St (w wr : World) (d lb br bx : Nat) (p : Pd) (cm : Nat) (co : Bool) (r : Pd) (A : Option Addr) (c : Nat) (rm : Int) (rd : Bool) : Prop where
  lw : Lw w wr d p
  lg : Lg wr lb d logN cm co
  ft : Flt wr (.slice A r.files.length c) r.files
  bd : Bk wr br 29 (rcs (.slice A r.files.length c) r)
  bl : Bk wr bx 36 (rlc logN rm rd)
  hb : w.heap.size ≤ br
  hx : w.heap.size ≤ bx
  hl : w.heap.size ≤ lb
section
variable {w wr w2 : World} {d lb br bx cm : Nat} {p : Pd} {co : Bool} {r : Pd} {A : Option Addr} {c : Nat} {rm : Int} {rd : Bool}
theorem St.old (h : St w wr d lb br bx p cm co r A c rm rd) (o : Old wr w2) : St w w2 d lb br bx p cm co r A c rm rd :=
  ⟨h.lw.go o, h.lg.old o, h.ft.old o, h.bd.old o, h.bl.old o, h.hb, h.hx, h.hl⟩
/-- Behind a call of the code's. -/
theorem St.code (h : St w wr d lb br bx p cm co r A c rm rd) {p' : Pd} {lb' cm' : Nat} {co' : Bool} (hk : Kr wr w2) (hlw : Lw w w2 d p') (hlg : Lg w2 lb' d logN cm' co') (hl' : w.heap.size ≤ lb') : St w w2 d lb' br bx p' cm' co' r A c rm rd :=
  ⟨hlw, hlg, h.ft.bk fun g cs hb => hk g _ cs (.inr (.inl rfl)) hb, hk _ _ _ (.inr (.inr (.inl rfl))) h.bd, hk _ _ _ (.inr (.inr (.inr rfl))) h.bl, h.hb, h.hx, hl'⟩
theorem St.disk (h : St w wr d lb br bx p cm co r A c rm rd) {r' : Pd} {A' : Option Addr} {c' : Nat} (hf : Flt wr (.slice A' r'.files.length c') r'.files) : St w (((((wr.setCell ⟨br, 0, none⟩ (.int .i64 (r'.cap : Int))).setCell ⟨br, 1, none⟩ (.slice A' r'.files.length c')).setCell ⟨br, 2, none⟩ (.bool (!r'.up))).setCell ⟨br, 3, none⟩ (.int .i64 (r'.left : Int))).setCell ⟨br, 4, none⟩ (.int .i64 r'.keep)) d lb br bx p cm co r' A' c' rm rd :=
  ⟨((((h.lw.far h.bd (.inl rfl) h.hb 0 _).far (h.bd.set_ 0 _) (.inl rfl) h.hb 1 _).far ((h.bd.set_ 0 _).set_ 1 _) (.inl rfl) h.hb 2 _).far (((h.bd.set_ 0 _).set_ 1 _).set_ 2 _) (.inl rfl) h.hb 3 _).far ((((h.bd.set_ 0 _).set_ 1 _).set_ 2 _).set_ 3 _) (.inl rfl) h.hb 4 _,
    bfar5 h.lg (Bk.ne h.lg h.bd (by decide)) (.int .i64 (r'.cap : Int)) (.slice A' r'.files.length c') (.bool (!r'.up)) (.int .i64 (r'.left : Int)) (.int .i64 r'.keep), hf.far5 h.bd (by decide) (.int .i64 (r'.cap : Int)) (.slice A' r'.files.length c') (.bool (!r'.up)) (.int .i64 (r'.left : Int)) (.int .i64 r'.keep), bk5 h.bd (.int .i64 (r'.cap : Int)) (.slice A' r'.files.length c') (.bool (!r'.up)) (.int .i64 (r'.left : Int)) (.int .i64 r'.keep), bfar5 h.bl (Bk.ne h.bl h.bd (by decide)) (.int .i64 (r'.cap : Int)) (.slice A' r'.files.length c') (.bool (!r'.up)) (.int .i64 (r'.left : Int)) (.int .i64 r'.keep), h.hb, h.hx, h.hl⟩
theorem St.log (h : St w wr d lb br bx p cm co r A c rm rd) (m : Int) (o : Bool) : St w (((wr.setCell ⟨bx, 0, none⟩ (.string (B logN))).setCell ⟨bx, 1, none⟩ (.int .i64 m)).setCell ⟨bx, 2, none⟩ (.bool o)) d lb br bx p cm co r A c m o :=
  ⟨((h.lw.far h.bl (.inr rfl) h.hx 0 _).far (h.bl.set_ 0 _) (.inr rfl) h.hx 1 _).far ((h.bl.set_ 0 _).set_ 1 _) (.inr rfl) h.hx 2 _,
    bfar3 h.lg (Bk.ne h.lg h.bl (by decide)) (.string (B logN)) (.int .i64 m) (.bool o), far3 h.ft h.bl (by decide) (.string (B logN)) (.int .i64 m) (.bool o), bfar3 h.bd (Bk.ne h.bd h.bl (by decide)) (.string (B logN)) (.int .i64 m) (.bool o), bk3 h.bl (.string (B logN)) (.int .i64 m) (.bool o), h.hb, h.hx, h.hl⟩
theorem St.left (h : St w wr d lb br bx p cm co r A c rm rd) (n : Nat) : St w (wr.setCell ⟨br, 3, none⟩ (.int .i64 (n : Int))) d lb br bx p cm co ⟨r.cap, r.files, r.up, n, r.keep⟩ A c rm rd :=
  ⟨h.lw.far h.bd (.inl rfl) h.hb 3 _, h.lg.far (p := ⟨br, 3, none⟩) (Bk.ne h.lg h.bd (by decide)) _, h.ft.far h.bd (by decide) 3 _, h.bd.set_ 3 _, h.bl.far (p := ⟨br, 3, none⟩) (Bk.ne h.bl h.bd (by decide)) _, h.hb, h.hx, h.hl⟩
theorem St.keep (h : St w wr d lb br bx p cm co r A c rm rd) (n : Int) : St w (wr.setCell ⟨br, 4, none⟩ (.int .i64 n)) d lb br bx p cm co ⟨r.cap, r.files, r.up, r.left, n⟩ A c rm rd :=
  ⟨h.lw.far h.bd (.inl rfl) h.hb 4 _, h.lg.far (p := ⟨br, 4, none⟩) (Bk.ne h.lg h.bd (by decide)) _, h.ft.far h.bd (by decide) 4 _, h.bd.set_ 4 _, h.bl.far (p := ⟨br, 4, none⟩) (Bk.ne h.bl h.bd (by decide)) _, h.hb, h.hx, h.hl⟩
theorem St.up (h : St w wr d lb br bx p cm co r A c rm rd)  : St w (wr.setCell ⟨br, 2, none⟩ (.bool false)) d lb br bx p cm co ⟨r.cap, r.files, true, r.left, r.keep⟩ A c rm rd :=
  ⟨h.lw.far h.bd (.inl rfl) h.hb 2 _, h.lg.far (p := ⟨br, 2, none⟩) (Bk.ne h.lg h.bd (by decide)) _, h.ft.far h.bd (by decide) 2 _, h.bd.set_ 2 _, h.bl.far (p := ⟨br, 2, none⟩) (Bk.ne h.bl h.bd (by decide)) _, h.hb, h.hx, h.hl⟩
theorem St.mk0 {w4 : World} {r' : Pd} {A' : Option Addr} {c' : Nat} {fv : Value} (lw : Lw w w4 d p) (lg : Lg w4 lb d logN cm co) (hf : Flt w4 (.slice A' r'.files.length c') r'.files) (bd : Bk w4 br 29 (rcs fv r)) (hb : w.heap.size ≤ br) (hl : w.heap.size ≤ lb) :
    St w ((((((w4.setCell ⟨br, 0, none⟩ (.int .i64 (r'.cap : Int))).setCell ⟨br, 1, none⟩ (.slice A' r'.files.length c')).setCell ⟨br, 2, none⟩ (.bool (!r'.up))).setCell ⟨br, 3, none⟩ (.int .i64 (r'.left : Int))).setCell ⟨br, 4, none⟩ (.int .i64 r'.keep)).alloc (.cells #[.string (B logN), .int .i64 rm, .bool rd] 36)) d lb br w4.heap.size p cm co r' A' c' rm rd := by
  have o := old_alloc (((((w4.setCell ⟨br, 0, none⟩ (.int .i64 (r'.cap : Int))).setCell ⟨br, 1, none⟩ (.slice A' r'.files.length c')).setCell ⟨br, 2, none⟩ (.bool (!r'.up))).setCell ⟨br, 3, none⟩ (.int .i64 (r'.left : Int))).setCell ⟨br, 4, none⟩ (.int .i64 r'.keep)) (.cells #[.string (B logN), .int .i64 rm, .bool rd] 36)
  have l5 := ((((lw.far bd (.inl rfl) hb 0 (.int .i64 (r'.cap : Int))).far (bd.set_ 0 _) (.inl rfl) hb 1 (.slice A' r'.files.length c')).far ((bd.set_ 0 _).set_ 1 _) (.inl rfl) hb 2 (.bool (!r'.up))).far (((bd.set_ 0 _).set_ 1 _).set_ 2 _) (.inl rfl) hb 3 (.int .i64 (r'.left : Int))).far ((((bd.set_ 0 _).set_ 1 _).set_ 2 _).set_ 3 _) (.inl rfl) hb 4 (.int .i64 r'.keep)
  exact ⟨l5.go o, (bfar5 lg (Bk.ne lg bd (by decide)) (.int .i64 (r'.cap : Int)) (.slice A' r'.files.length c') (.bool (!r'.up)) (.int .i64 (r'.left : Int)) (.int .i64 r'.keep)).old o, (hf.far5 bd (by decide) (.int .i64 (r'.cap : Int)) (.slice A' r'.files.length c') (.bool (!r'.up)) (.int .i64 (r'.left : Int)) (.int .i64 r'.keep)).old o, (bk5 bd (.int .i64 (r'.cap : Int)) (.slice A' r'.files.length c') (.bool (!r'.up)) (.int .i64 (r'.left : Int)) (.int .i64 r'.keep)).old o, new_bk' _ _ _ _ (by simp [World.setCell]), hb, lw.old.size, hl⟩
theorem strs_nil (w : World) (A : Option Addr) (c : Nat) : Strs w A c [] := ⟨Nat.zero_le _, fun i t ht => by simp at ht⟩
end
theorem nmG : logN.length ≤ 1000 := by decide
theorem acts_cap {x : List UInt8} {r : Pd} (h : Good x r) : (nr r).cap ≤ 1000000 := h.cap
end Go.Proofs.YtilimfbjkgeciaaDoor

namespace Go.Proofs.YtilimfbjkgeciaaDoor

/-- The block of this number. -/
def blockOf (n : Nat) : Code → Option Code
  | .block m c => if m = n then some (.block m c) else blockOf n c
  | .seq a b => match blockOf n a with
    | some c => some c
    | none => blockOf n b
  | .cond _ a b => match blockOf n a with
    | some c => some c
    | none => blockOf n b
  | .loop c => blockOf n c
  | .scope c => blockOf n c
  | _ => none
noncomputable def sw : Code := (Tryd.f3.body.bind (blockOf 2)).getD .skip
end Go.Proofs.YtilimfbjkgeciaaDoor
