/-
  A law's disk and its logs: each call, as plain data; the small case that must go well. Conditions: the table is laid; lengths as written.
-/
import Derived.Test.YtilimfbjkgeciaaDoorWOne
namespace Go.Proofs.YtilimfbjkgeciaaDoor
set_option maxRecDepth 100000
open Go.RowKit Go.Maps Go.Shelf

/-- A disk that was made since w. -/
structure Lw (w w1 : World) (d : Nat) (p : Pd) : Prop where
  ex : ∃ k, ab k = p ∧ k.d = d ∧ Dk w1 k ∧ ∀ i ∈ own k, w.heap.size ≤ i
  old : Old w w1
theorem Lw.go {w w1 w2 : World} {d : Nat} {p : Pd} (h : Lw w w1 d p) (o : Old w1 w2) : Lw w w2 d p := by
  obtain ⟨k, h1, h2, h3, h4⟩ := h.ex
  exact ⟨⟨k, h1, h2, h3.old o, h4⟩, h.old.tr o⟩
/-- What no disk holds: texts, the document's own files, its disks and its logs. -/
def Far (t : TypeId) : Prop := t = 9 ∨ t = 83 ∨ t = 29 ∨ t = 36
/-- Rows of texts stay, and the document's own. -/
def Kr (w1 w2 : World) : Prop := ∀ (g : Nat) (t : TypeId) (cs : Array Value), Far t → Bk w1 g t cs → Bk w2 g t cs
/-- Logs stay, but one. -/
def Kl (w1 w2 : World) (lb : Nat) : Prop := ∀ (g : Nat) (cs : Array Value), Bk w1 g 67 cs → g ≠ lb → Bk w2 g 67 cs
def OwnS (w : World) (base : Nat) (v : Value) (l : List (List UInt8)) : Prop := w.ownsRow base 9 1 v l.length (ts l)
theorem OwnS.kr {w w' : World} {base : Nat} {v : Value} {l : List (List UInt8)} (r : OwnS w base v l) (h : Kr w w') : OwnS w' base v l := by
  refine ⟨r.1, ?_⟩
  rcases r.2 with h1 | ⟨gg, cap, cur, hv, hb, hg, rest⟩
  · exact .inl h1
  · exact .inr ⟨gg, cap, cur, hv, hb, h gg _ _ (.inl rfl) hg, rest⟩
theorem OwnS.old {w w' : World} {base : Nat} {v : Value} {l : List (List UInt8)} (r : OwnS w base v l) (o : Old w w') : OwnS w' base v l := r.kr fun _ _ _ _ h => h.old o
theorem Kr.of_old {w w' : World} (o : Old w w') : Kr w w' := fun _ _ _ _ h => h.old o
theorem Kr.tr {w w1 w2 : World} (a : Kr w w1) (b : Kr w1 w2) : Kr w w2 := fun g t cs f h => b g t cs f (a g t cs f h)
theorem OwnS.shape {w : World} {base : Nat} {v : Value} {l : List (List UInt8)} (h : OwnS w base v l) (hl : ∀ t ∈ l, t.length ≤ 1000000) : ∃ A cap, v = .slice A l.length cap ∧ Strs w A cap l := strs_of_own h hl
theorem OwnS.strs {w : World} {base c : Nat} {A : Option Addr} {l : List (List UInt8)} (h : OwnS w base (.slice A l.length c) l) (hl : ∀ t ∈ l, t.length ≤ 1000000) : Strs w A c l := strs_row h hl

theorem lw_kept {w w1 w2 : World} {k k' : Dsk} {p : Pd} {d : Nat} (o : Old w w1) (hn : ∀ i ∈ own k, w.heap.size ≤ i) (hk : k.d = d) (h1 : ab k' = p) (h2 : k'.d = k.d) (h3 : Dk w2 k') (h4 : Kept k k' w1 w2) : Lw w w2 d p := by
  obtain ⟨a, b⟩ := h4.over o hn
  exact ⟨⟨k', h1, h2.trans hk, h3, b⟩, a⟩
theorem kr_kept {w1 w2 : World} {k k' : Dsk} (h : Dk w1 k) (h4 : Kept k k' w1 w2) : Kr w1 w2 := fun _ _ _ f hb => by
  rcases f with rfl | rfl | rfl | rfl <;> exact h4.bk hb (h.other hb (by decide) (by decide) (by decide) (by decide))
theorem kl_kept {w1 w2 : World} {k k' : Dsk} (h : Dk w1 k) (h4 : Kept k k' w1 w2) (lb : Nat) : Kl w1 w2 lb := fun _ _ hb _ => h4.bk hb (h.other hb (by decide) (by decide) (by decide) (by decide))

section
variable {w w1 : World} {d lb many : Nat} {p : Pd} {x : List UInt8} {off : Bool}
/-- What a call of a disk comes to. -/
def LwV (w w1 : World) (d : Nat) (r : Pd) (e : Ending) (w2 : World) : Prop := e = .returned (.tuple #[]) ∧ Lw w w2 d r ∧ Kr w1 w2 ∧ ∀ lb, Kl w1 w2 lb
theorem lw_v {k : Dsk} {r : Pd} {e : Ending} {w2 : World} (o : Old w w1) (hk : k.d = d) (hd : Dk w1 k) (hn : ∀ i ∈ own k, w.heap.size ≤ i) (h : PostV k w1 r e w2) : LwV w w1 d r e w2 := by
  obtain ⟨e1, k', h1, h2, h3, h4⟩ := h
  exact ⟨e1, lw_kept o hn hk h1 h2 h3 h4, kr_kept hd h4, kl_kept hd h4⟩
theorem crash_lw (h : Lw w w1 d p) (keep : Int) : Calls Tryd.prog 19 #[ptr d, .int .i64 keep] w1 (LwV w w1 d (pcrash keep p)) := by
  obtain ⟨k, rfl, rfl, h3, h4⟩ := h.ex
  exact (crash_u k keep w1 h3).mono fun _ _ hp => lw_v h.old rfl h3 h4 hp
theorem on_lw (h : Lw w w1 d p) : Calls Tryd.prog 21 #[ptr d] w1 (LwV w w1 d (pon p)) := by
  obtain ⟨k, rfl, rfl, h3, h4⟩ := h.ex
  exact (on_u k w1 h3).mono fun _ _ hp => lw_v h.old rfl h3 h4 hp
theorem fuse_lw (h : Lw w w1 d p) (n keep : Int) (hn : n ≤ 9223372036854775807) : Calls Tryd.prog 18 #[ptr d, .int .i64 n, .int .i64 keep] w1 (LwV w w1 d (pfuse p n keep)) := by
  obtain ⟨k, rfl, rfl, h3, h4⟩ := h.ex
  exact (fuse_u k n keep hn w1 h3).mono fun _ _ hp => lw_v h.old rfl h3 h4 hp
theorem size_lw (h : Lw w w1 d p) : Calls Tryd.prog 25 #[ptr d] w1 fun e w2 => e = .returned (.int .i64 (ptot p.files : Nat)) ∧ Old w1 w2 := by
  obtain ⟨k, rfl, rfl, h3, h4⟩ := h.ex
  exact size_u k w1 h3
theorem up_lw (h : Lw w w1 d p) : Calls Tryd.prog 24 #[ptr d] w1 fun e w2 => e = .returned (.bool p.up) ∧ w1 = w2 := by
  obtain ⟨k, rfl, rfl, h3, h4⟩ := h.ex
  exact up_any k w1 h3
theorem new_lw (c : Nat) (hc : c ≤ 1000000000000) (o : Old w w1) : Calls Tryd.prog 9 #[.int .i64 (c : Int)] w1 fun e w2 => ∃ d, e = .returned (ptr d) ∧ Lw w w2 d (P0 c) ∧ Old w1 w2 := by
  refine (new_any c hc w1).mono ?_
  rintro e w2 ⟨k, e1, h1, h2, h3, h4, h5, h6, h7⟩
  refine ⟨k.d, e1, ⟨⟨k, ?_, rfl, h1, fun i hi => Nat.le_trans o.size (h3 i hi)⟩, o.tr h2⟩, h2⟩
  unfold ab
  rw [h4, h5, h6, h7]
  rfl

def LwL (w w1 : World) (d lb : Nat) (x : List UInt8) (r : Lr) (e : Ending) (w2 : World) : Prop :=
  e = .returned (.int .i64 r.e) ∧ Lw w w2 d r.p ∧ Lg w2 lb d x r.many r.off ∧ Kr w1 w2 ∧ Kl w1 w2 lb
theorem lw_l {k : Dsk} {r : Lr} {e : Ending} {w2 : World} (o : Old w w1) (hlb : w.heap.size ≤ lb) (hl : Lg w1 lb k.d x many off) (hd : Dk w1 k) (hn : ∀ i ∈ own k, w.heap.size ≤ i) (h : PostL k lb x w1 r e w2) : LwL w w1 k.d lb x r e w2 := by
  obtain ⟨e1, k', h1, h2, h3, h4, h5⟩ := h
  refine ⟨e1, ⟨⟨k', h1, h2, h3, fun i hi => ?_⟩, ⟨h5.os.trans o.os, h5.tape.trans o.tape, h5.output.trans o.output, Nat.le_trans o.size h5.size, fun i hi => ?_⟩⟩, h4, fun g t cs f hb => ?_, fun g cs hb hne => ?_⟩
  · rcases h5.own i hi with h6 | h6
    · exact hn i h6
    · exact Nat.le_trans o.size h6
  · rw [h5.block i (Nat.lt_of_lt_of_le hi o.size) (fun hx => by have := hn i hx; omega) (by omega), o.block i hi]
  · rcases f with rfl | rfl | rfl | rfl <;> exact h5.bk hb (hd.other hb (by decide) (by decide) (by decide) (by decide)) (Bk.ne hb hl (by decide))
  · exact h5.bk hb (hd.other hb (by decide) (by decide) (by decide) (by decide)) hne
theorem append_lw (h : Lw w w1 d p) (ht : Tab w) (hlb : w.heap.size ≤ lb) (hl : Lg w1 lb d x many off) (hx : x.length ≤ 1000) (hmb : many ≤ 1000000000000) (texts : List (List UInt8)) (A : Option Addr) (cap : Nat) (hml : texts.length ≤ 1000) (hsm : ∀ t ∈ texts, t.length ≤ 1000000) (hS : Strs w1 A cap texts) :
    Calls Tryd.prog 14 #[ptr lb, .slice A texts.length cap] w1 (LwL w w1 d lb x (pappendL x p many off texts)) := by
  obtain ⟨k, rfl, rfl, h3, h4⟩ := h.ex
  exact (appendL_any k lb many x off hx hmb texts A cap hml hsm w1 (ht.old h.old) hS h3 hl).mono fun _ _ hp => lw_l h.old hlb hl h3 h4 hp
theorem reset_lw (h : Lw w w1 d p) (ht : Tab w) (hlb : w.heap.size ≤ lb) (hl : Lg w1 lb d x many off) (hx : x.length ≤ 1000) (texts : List (List UInt8)) (A : Option Addr) (cap : Nat) (hml : texts.length ≤ 1000) (hsm : ∀ t ∈ texts, t.length ≤ 1000000) (hS : Strs w1 A cap texts) :
    Calls Tryd.prog 16 #[ptr lb, .slice A texts.length cap] w1 (LwL w w1 d lb x (presetL x p many off texts)) := by
  obtain ⟨k, rfl, rfl, h3, h4⟩ := h.ex
  exact (resetL_any k lb many x off hx texts A cap hml hsm w1 (ht.old h.old) hS h3 hl).mono fun _ _ hp => lw_l h.old hlb hl h3 h4 hp
/-- What Open comes to. -/
def LwO (w w1 : World) (d : Nat) (x : List UInt8) (r : Pd × List (List UInt8) × Int) (e : Ending) (w2 : World) : Prop :=
  Lw w w2 d r.1 ∧ Kr w1 w2 ∧ (∀ lb, Kl w1 w2 lb) ∧
    ((r.2.2 = 0 ∧ ∃ lb A cap, e = .returned (.tuple #[ptr lb, .slice A r.2.1.length cap, .int .i64 0]) ∧ w.heap.size ≤ lb ∧ w1.heap.size ≤ lb ∧ Lg w2 lb d x r.2.1.length false ∧ Strs w2 A cap r.2.1 ∧ OwnS w2 w.heap.size (.slice A r.2.1.length cap) r.2.1) ∨
     (r.2.2 ≠ 0 ∧ e = .returned (.tuple #[.pointer none, .slice none 0 0, .int .i64 r.2.2])))
theorem open_lw (h : Lw w w1 d p) (ht : Tab w) (hx : x.length ≤ 1000) (hc : p.cap ≤ 1000000) :
    Calls Tryd.prog 10 #[ptr d, .string (B x)] w1 (LwO w w1 d x (popen p x)) := by
  obtain ⟨k, rfl, rfl, h3, h4⟩ := h.ex
  refine (open_any k x hx w1 (ht.old h.old) h3 hc).mono ?_
  rintro e w2 ⟨k', g1, g2, g3, g4, g5⟩
  refine ⟨lw_kept h.old h4 rfl g1 g2 g3 g4, kr_kept h3 g4, kl_kept h3 g4, ?_⟩
  rcases g5 with ⟨z, lb, A, cap, e1, q1, q2, q3, q4⟩ | g5
  · exact .inl ⟨z, lb, A, cap, e1, Nat.le_trans h.old.size q1, q1, q2, q3, row_base q4 h.old.size⟩
  · exact .inr g5
theorem open_ok {r : Pd} {T : List (List UInt8)} (h : Lw w w1 d p) (ht : Tab w) (hx : x.length ≤ 1000) (hc : p.cap ≤ 1000000) (hr : popen p x = (r, T, 0)) :
    Calls Tryd.prog 10 #[ptr d, .string (B x)] w1 fun e w2 => ∃ lb A cap, e = .returned (.tuple #[ptr lb, .slice A T.length cap, .int .i64 0]) ∧ Lw w w2 d r ∧ Kr w1 w2 ∧ (∀ lb, Kl w1 w2 lb) ∧ w.heap.size ≤ lb ∧ w1.heap.size ≤ lb ∧ Lg w2 lb d x T.length false ∧ Strs w2 A cap T ∧ OwnS w2 w.heap.size (.slice A T.length cap) T := by
  refine (open_lw h ht hx hc).mono ?_
  rw [hr]
  rintro e w2 ⟨h1, h2, h3, ⟨-, lb, A, cap, e1, q⟩ | ⟨z, -⟩⟩
  · exact ⟨lb, A, cap, e1, h1, h2, h3, q⟩
  · exact absurd rfl z
theorem append_ok' {r : Pd} {m : Nat} {texts : List (List UInt8)} {A : Option Addr} {cap : Nat} (h : Lw w w1 d p) (ht : Tab w) (hlb : w.heap.size ≤ lb) (hl : Lg w1 lb d x many off) (hx : x.length ≤ 1000) (hmb : many ≤ 1000000000000) (hml : texts.length ≤ 1000) (hsm : ∀ t ∈ texts, t.length ≤ 1000000) (hS : Strs w1 A cap texts) {o2 : Bool} {y : Int} (hr : pappendL x p many off texts = ⟨r, m, o2, y⟩) :
    Calls Tryd.prog 14 #[ptr lb, .slice A texts.length cap] w1 fun e w2 => e = .returned (.int .i64 y) ∧ Lw w w2 d r ∧ Lg w2 lb d x m o2 ∧ Kr w1 w2 ∧ Kl w1 w2 lb := by
  refine (append_lw h ht hlb hl hx hmb texts A cap hml hsm hS).mono ?_
  rw [hr]
  exact fun _ _ hp => hp
theorem reset_ok' {r : Pd} {m : Nat} {texts : List (List UInt8)} {A : Option Addr} {cap : Nat} (h : Lw w w1 d p) (ht : Tab w) (hlb : w.heap.size ≤ lb) (hl : Lg w1 lb d x many off) (hx : x.length ≤ 1000) (hml : texts.length ≤ 1000) (hsm : ∀ t ∈ texts, t.length ≤ 1000000) (hS : Strs w1 A cap texts) {o2 : Bool} {y : Int} (hr : presetL x p many off texts = ⟨r, m, o2, y⟩) :
    Calls Tryd.prog 16 #[ptr lb, .slice A texts.length cap] w1 fun e w2 => e = .returned (.int .i64 y) ∧ Lw w w2 d r ∧ Lg w2 lb d x m o2 ∧ Kr w1 w2 ∧ Kl w1 w2 lb := by
  refine (reset_lw h ht hlb hl hx texts A cap hml hsm hS).mono ?_
  rw [hr]
  exact fun _ _ hp => hp
end

theorem strs_any {w : World} {g : Nat} (l : List (List UInt8)) (hl : ∀ t ∈ l, t.length ≤ 1000000) (h : Bk w g 9 (ts l).toArray) : Strs w (some ⟨g, 0, none⟩) l.length l := by
  refine ⟨Nat.le_refl _, fun i t ht => ⟨?_, g, 0, rfl, ?_⟩⟩
  · have := hl t (List.mem_of_getElem? ht)
    unfold maxLen
    omega
  · rw [Nat.zero_add]
    exact h.at_ i (by simpa using ts_at ht)
def wN : List UInt8 := [119]
theorem nmW : Nm [119] := ⟨by decide, by decide⟩
set_option maxHeartbeats 4000000 in
theorem shown_any (w : World) (ht : Tab w) : Calls Tryd.prog 8 #[] w fun e w' => e = .returned (.bool true) ∧ Old w w' := by
  go_enter Tryd.func8, Tryd.ntmps8
  go_wp2_with fail
  refine (new_lw 1000 (by omega) (Old.re w)).mono ?_
  rintro e w1 ⟨d, rfl, h1, -⟩
  have H := open_ok (x := [119]) h1 ht (by decide) (by decide) (open_none nmW)
  clear h1
  go_wp2_with fail
  refine H.mono ?_
  clear H
  rintro e w2 ⟨lb, A, cap, rfl, h2, -, -, q1, -, q3, -, -⟩
  have o2 := old_alloc w2 (.cells #[.string (B [97]), .string (B [98])] 9)
  have H := append_ok' (h2.go o2) ht q1 (q3.old o2) (by decide) (by decide) (by decide) (by decide) (strs_any [[97], [98]] (by decide) (new_bk w2 _ _)) (append_one (T := []) nmW (by decide) _ (by decide +kernel))
  clear h2 q3
  go_wp2_with fail
  refine H.mono ?_
  clear H
  rintro e w3 ⟨rfl, h3, q3, -, -⟩
  have o3 := old_alloc w3 (.cells #[.string (B [99])] 9)
  have H := reset_ok' (h3.go o3) ht q1 (q3.old o3) (by decide) (by decide) (by decide) (strs_any [[99]] (by decide) (new_bk w3 _ _)) (reset_one nmW (by decide) _ (by decide +kernel))
  clear h3 q3
  go_wp2_with fail
  refine H.mono ?_
  clear H
  rintro e w4 ⟨rfl, h4, q4, -, -⟩
  have o4 := old_alloc w4 (.cells #[.string (B [100])] 9)
  have H := append_ok' (h4.go o4) ht q1 (q4.old o4) (by decide) (by decide) (by decide) (by decide) (strs_any [[100]] (by decide) (new_bk w4 _ _)) (append_one (T := [[99]]) nmW (by decide) _ (by decide +kernel))
  clear h4 q4
  go_wp2_with fail
  refine H.mono ?_
  clear H
  rintro e w5 ⟨rfl, h5, q5, -, -⟩
  have H := open_ok h5 ht (by decide) (by decide) (open_one (T := [[99]] ++ [[100]]) nmW (by decide))
  clear h5
  go_wp2_with fail
  refine H.mono ?_
  clear H
  rintro e w6 ⟨lb2, A2, cap2, rfl, h6, -, k6, -, r2, q6, hS, -⟩
  have q7 := k6 lb2 _ _ q5 (fun e => by have := q5.lt; omega)
  obtain ⟨-, b, off, rfl, c0⟩ := hS.at_ 0 (by decide)
  obtain ⟨-, b', off', e2, c1⟩ := hS.at_ 1 (by decide)
  cases e2
  have c0' : w6.cell? ⟨b, off, none⟩ = some (.string (B [99])) := c0
  have c1' : w6.cell? ⟨b, off + 1, none⟩ = some (.string (B [100])) := c1
  have HM := many_any q7
  go_wp2_with fail
  refine HM.mono ?_
  rintro e w7 ⟨rfl, rfl⟩
  go_wp2
  go_ret
  exact ⟨rfl, h6.old⟩
end Go.Proofs.YtilimfbjkgeciaaDoor
