/-
  A list of texts that came in. No conditions.
-/
import Derived.Test.YtilimfbjkgeciaaDoorCPut
namespace Go.Proofs.YtilimfbjkgeciaaDoor
set_option maxRecDepth 100000
open Go.RowKit

theorem kept_cell {W w1 : World} (hb : Old W w1) (g o : Nat) (h : g < W.heap.size) : w1.cell? ⟨g, o, none⟩ = W.cell? ⟨g, o, none⟩ := hb.cell (p := ⟨g, o, none⟩) h
end Go.Proofs.YtilimfbjkgeciaaDoor
