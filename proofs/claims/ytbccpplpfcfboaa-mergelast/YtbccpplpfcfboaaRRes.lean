/-
  Resolve: of the items that have one coordinate the one that stays, in order. Conditions: lengths as written.
-/
import Derived.Test.YtbccpplpfcfboaaROwn
namespace Go.Proofs.Ytbccpplpfcfboaa
open Go.RowKit

set_option maxHeartbeats 1000000 in
theorem ins_nil (w : World) : Calls Try.prog 66 #[.slice none 0 0, .int .i64 0, .int .i64 0, fA] w fun e w' => (∃ u, e = .returned u) ∧ w' = w := by
  go_enter Try.func66, Try.ntmps66
  go_wp2_with fail
  refine wp_loop_rounds 1 ?_
  rw [rounds_succ]
  go_wp2
  exact bodyPost_end (results_none rfl _ _ _) rfl ⟨⟨_, rfl⟩, rfl⟩
set_option maxHeartbeats 1000000 in
theorem stable_nil (w : World) : Calls Try.prog 58 #[.slice none 0 0, .int .i64 0, fA] w fun e w' => (∃ u, e = .returned u) ∧ w' = w := by
  go_enter Try.func58, Try.ntmps58
  go_wp2_with fail
  refine wp_loop_rounds 1 ?_
  rw [rounds_succ]
  go_wp2_with (go_at_call 66; refine (ins_nil _).mono ?_; rintro e w' ⟨⟨u, rfl⟩, rfl⟩)
  refine wp_loop_rounds 1 ?_
  rw [rounds_succ]
  go_wp2
  exact bodyPost_end (results_none rfl _ _ _) rfl ⟨⟨_, rfl⟩, rfl⟩
set_option maxHeartbeats 1000000 in
theorem sort_nil (w : World) : Calls Try.prog 48 #[.slice none 0 0, fA] w fun e w' => (∃ u, e = .returned u) ∧ w' = w := by
  go_enter Try.func48, Try.ntmps48
  go_wp2_with (go_at_call 58; refine (stable_nil _).mono ?_; rintro e w' ⟨⟨u, rfl⟩, rfl⟩)
  exact bodyPost_end (results_none rfl _ _ _) rfl ⟨⟨_, rfl⟩, rfl⟩
set_option maxHeartbeats 1000000 in
theorem compact_nil (w : World) : Calls Try.prog 50 #[.slice none 0 0, fS] w fun e w' => e = .returned (.slice none 0 0) ∧ w' = w := by
  go_enter Try.func50, Try.ntmps50
  go_wp2
  go_ret
  exact ⟨rfl, rfl⟩

/-- Items that Resolve has made. -/
def Rit (w : World) (v : Value) (l : List Itm) : Prop := (v = .slice none 0 0 ∧ l = []) ∨ ∃ g cap r, v = .slice (some ⟨g, 0, none⟩) l.length cap ∧ l.length ≤ cap ∧ Seg w g l r
theorem Rit.its {w : World} {v : Value} {l : List Itm} (h : Rit w v l) : Itms w v l := by
  rcases h with h | ⟨g, cap, r, h1, h2, h3⟩
  · exact .inl h
  · exact .inr ⟨⟨g, 0, none⟩, cap, h1, h2, fun _ => ⟨g, 0, rfl, h3.its⟩⟩
theorem Rit.old {w w' : World} {v : Value} {l : List Itm} (h : Rit w v l) (o : Old w w') : Rit w' v l := by
  rcases h with h | ⟨g, cap, r, h1, h2, h3⟩
  · exact .inl h
  · exact .inr ⟨g, cap, r, h1, h2, h3.old o⟩
set_option maxHeartbeats 1000000 in
theorem resolve_any (w : World) (v : Value) (l : List Itm) (h : Itms w v l) (hl : l.length ≤ 50000) :
    Calls Try.prog 37 #[v] w fun e w' => ∃ u out, e = .returned u ∧ IsRes l out ∧ out.length ≤ l.length ∧ Old w w' ∧ Rit w' u out := by
  have C := clone_any w v l h hl
  go_enter Try.func37, Try.ntmps37
  go_wp2_with fail
  refine C.mono ?_
  rintro e w1 ⟨u1, rfl, o1, h1⟩
  clear C
  rcases h1.seg with ⟨rfl, rfl⟩ | ⟨g, cap, r, rfl, hg, hc, hs⟩
  · clear h1
    go_wp2_with fail
    refine (sort_nil _).mono ?_
    rintro e w2 ⟨⟨u2, rfl⟩, rfl⟩
    go_wp2_with fail
    refine (compact_nil _).mono ?_
    rintro e w2 ⟨rfl, rfl⟩
    go_wp2
    go_ret
    exact ⟨_, [], rfl, IsRes.nil, Nat.le_refl _, o1, .inl ⟨rfl, rfl⟩⟩
  · clear h1
    have C := sortStable_any w w1 g cap l r o1 hg hs (by omega)
    clear hs
    go_wp2_with fail
    refine C.mono ?_
    rintro e w2 ⟨⟨u2, rfl⟩, o2, M, g1, g2, g3⟩
    clear C
    have C := compact_any w w2 g cap l.length M r o2 hg g3 g1.len.symm (by omega) hc
    have HR := Lib.hid (dd_res g2 g1.bst)
    have HL := Lib.hid (show (dd M).length ≤ l.length by have := dd_len M; have := g1.len; omega)
    clear g1 g2 g3
    go_wp2_with fail
    refine C.mono ?_
    rintro e w3 ⟨rfl, o3, r3, h3⟩
    clear C
    have HI := Lib.hid h3
    clear h3
    go_wp2
    go_ret
    exact ⟨_, dd M, rfl, HR.out, HL.out, o3, .inr ⟨g, cap, r3, rfl, by have := HL.out; omega, HI.out⟩⟩
end Go.Proofs.Ytbccpplpfcfboaa
