/-
  Clone of cells; a region of looks inside a round. Conditions: lengths as written.
-/
import Derived.Test.YtohokmfbcehkgaaCSpl
import Derived.Sort.QuietIn
import Derived.Lib.SliceRun
namespace Go.Proofs.Ytohokmfbcehkgaa
open Go.RowKit Go.Shelf

variable {F : Fence} {n : Nat} {P : Program}
theorem wpIn_region_quiet_round {id : Nat} {Q : Exit → Act → World → Prop} {a : Act} {w : World} {l : List Oper} {r : Nat} (hro : F.round = none) (hm : P.follows .mixedOrders = true) (hB : Region.lexB .any l.toArray = true) (hd : noDefer l.toArray = true)
    (h : wpQuietIn F n P l.toArray (fun w' => ∃ n, w' = w.drewN n) (fun a' => ∀ w', (∃ n, w' = w.drewN n) → Q .normal a' w') l a) : (Code.region id l.toArray true).wpIn (F.inRound r) n P Q a w := by
  simp only [Region.lexB, Bool.and_eq_true] at hB
  refine wpIn_region_round hm hd (wpAnyIn_of_quiet (C := fun w' => ∃ n, w' = w.drewN n) (Q := fun a' => ∀ w', (∃ n, w' = w.drewN n) → Q .normal a' w') hro (fun _ w' hw' h => h w' hw') _ _ _ _ ⟨1, rfl⟩ ?_)
  have := wpAnyQIn_lex (F := F) (n := n) (C := fun w' => ∃ n, w' = w.drewN n) (md := .any) hB.1 l 0 (Array.replicate l.toArray.size false) a (by simp) (by simpa using hB.2) (by simpa using h)
  simpa using this

set_option maxHeartbeats 2000000 in
theorem clone_any (w : World) (v : Value) (l : List Cel) (h : Cels w v l) (hl : l.length ≤ 100000) :
    Calls Try.prog 29 #[v] w fun e w' => ∃ u, e = .returned u ∧ Old w w' ∧ OwnC w' w.heap.size u l := by
  rcases h with ⟨rfl, rfl⟩ | ⟨A, cap, rfl, hc, hA⟩
  · have hq := fun W => Lib.run_eql_slice_nil (P := Try.prog) W 22 50 none 0 0 0 0 Try.underlying22
    go_enter Try.func29, Try.ntmps29
    go_wp2
    go_ret
    exact ⟨_, rfl, Old.re _, OwnC.nil _ _⟩
  · have HI : Hid (Cels w (.slice (some A) l.length cap) l) := Lib.hid (.inr ⟨A, cap, rfl, hc, hA⟩)
    clear hA
    have hq := fun W => Lib.run_eql_slice_nil (P := Try.prog) W 22 50 (some A) l.length cap 0 0 Try.underlying22
    go_enter Try.func29, Try.ntmps29
    go_wp2_with (at_builtin; refine wp_cels rfl (.tmp 5) (.tmp 6) rfl (W0 := w) (old_alloc _ _) _ [] l rfl (OwnC.empty (new_bk _ _ _) (Nat.le_refl _)) _ rfl (HI.out.old (old_alloc _ _)) (by simp; omega) ?_; intro v8 w8 n8 o8 _ _; refine Hid.out ?_)
    refine Lib.hid ?_
    go_wp2
    go_ret
    exact ⟨_, rfl, o8, by simpa using n8⟩
end Go.Proofs.Ytohokmfbcehkgaa
