/-
  NARROWER THAN 'FOR EVERY INPUT', by the rows' own cells (each row's printed sentence says how): TableStamps: laid · TableRows: laid · TableCut: laid · TableApart: laid · TableBlocks: laid.
  DERIVED. THE GIVEN ROWS OF THIS SEAT. 5 by the template 'for every input the law returns true; each argument reads behind the call as it read before'; 0 by the template 'total and deterministic' (their statements: YtlmlopdakbbbjaaDoorTotals.lean).
  GIVEN WITH THE SEED: the statements are not yours to turn. If you find one false, say at which input.
  Laid BY PROGRAM, IN A SANDBOX (cutbox-rows.mjs): the forced cells as the released guide's own fill.sh prints them over the translation 59f233df5b4c5623… (all of the seat's roots in one cut). By AI agents, Wed Nov 11 2026. No macro, syntax, notation, axiom, sorry.
-/
import Derived.Test.YtlmlopdakbbbjaaDoorChecked
import GoSem.Claim
import GoSem.ClaimJoined
import GoSem.ClaimMapViews
import Derived.JoinedTies
import Derived.KernelRfl
namespace Go.Proofs.YtlmlopdakbbbjaaDoor
/- THE CELL 'sum', in the pinned program and in every row, IS THE sha256 OF THE DUMP (.gsa) THAT YtlmlopdakbbbjaaDoorProg.lean LOADS. Nothing in Lean hashes anything: it is a label: what it is worth is what the hold of that sum in a sandbox is worth. -/
noncomputable def Tryd.pinned : Pinned := { name := "ytlmlopdakbbbjaadoor", sum := "59f233df5b4c5623d130918a4e340174fb53746d1b77550e8d8f0a718f326728", checked := Tryd.checked }
namespace Rows
def none {H : Type} : Left H := { results := [], args := [] }

/- WHAT THE LISTED PACKAGE-LEVEL VARIABLES READ AS WHEN THE CALL BEGINS. Each datum BY PROGRAM (the guide's laid-datum.mjs) off the statement by which the dump's own 'gosem.cut.vars' lays the variable. In a bare row this is a premise. The card (YtlmlopdakbbbjaaDoorCards.lean) ties it to the program's text. -/
def laid_rickyard_crc_quarters {H : Type} : DataW H := .agg [.lit (.int .u32 0), .lit (.int .u32 498536548), .lit (.int .u32 997073096), .lit (.int .u32 651767980), .lit (.int .u32 1994146192), .lit (.int .u32 1802195444), .lit (.int .u32 1303535960), .lit (.int .u32 1342533948), .lit (.int .u32 3988292384), .lit (.int .u32 4027552580), .lit (.int .u32 3604390888), .lit (.int .u32 3412177804), .lit (.int .u32 2607071920), .lit (.int .u32 2262029012), .lit (.int .u32 2685067896), .lit (.int .u32 3183342108)]

/-- 'rickyardlaw05.TableStamps': WHATEVER THE INPUT: true; the input reads as it did. -/
def tableStampsSpec : ChangeSpec := { name := "tableStamps", fn := fun _ => fun
  | [d1, d2, d3] => { results := [.lit (.bool true)], args := [d1, d2, d3] }
  | _ => none }
def tableStampsRow : OpenClaim := { program := "ytlmlopdakbbbjaadoor", sum := "59f233df5b4c5623d130918a4e340174fb53746d1b77550e8d8f0a718f326728", func := "rickyard/rickyardlaw05.TableStamps", spec := "tableStamps", inPlace := ["internal/abi.NoEscape", "internal/bytealg.MakeNoZero"], unfollowed := true, recurses := true, named := ["rickyard/crc.quarters"], apart := false, laid := [("rickyard/crc.quarters", laid_rickyard_crc_quarters)] }
def TableStampsSaid : Prop := tableStampsRow.holds Tryd.pinned (OpenSpec.ofChange tableStampsSpec)

/-- ITS FALSE NEIGHBOUR: 'it returns false'. Refute it at one input. -/
def tableStampsWrong : ChangeSpec := { name := "tableStamps", fn := fun _ => fun
  | [d1, d2, d3] => { results := [.lit (.bool false)], args := [d1, d2, d3] }
  | _ => none }
def TableStampsWrongFalsely : Prop := tableStampsRow.holds Tryd.pinned (OpenSpec.ofChange tableStampsWrong)

/-- 'rickyardlaw05.TableRows': WHATEVER THE INPUT: true; the input reads as it did. -/
def tableRowsSpec : ChangeSpec := { name := "tableRows", fn := fun _ => fun
  | [d] => { results := [.lit (.bool true)], args := [d] }
  | _ => none }
def tableRowsRow : OpenClaim := { program := "ytlmlopdakbbbjaadoor", sum := "59f233df5b4c5623d130918a4e340174fb53746d1b77550e8d8f0a718f326728", func := "rickyard/rickyardlaw05.TableRows", spec := "tableRows", inPlace := ["internal/abi.NoEscape", "internal/bytealg.MakeNoZero"], unfollowed := true, recurses := true, named := ["rickyard/crc.quarters"], apart := false, laid := [("rickyard/crc.quarters", laid_rickyard_crc_quarters)] }
def TableRowsSaid : Prop := tableRowsRow.holds Tryd.pinned (OpenSpec.ofChange tableRowsSpec)

/-- ITS FALSE NEIGHBOUR: 'it returns false'. Refute it at one input. -/
def tableRowsWrong : ChangeSpec := { name := "tableRows", fn := fun _ => fun
  | [d] => { results := [.lit (.bool false)], args := [d] }
  | _ => none }
def TableRowsWrongFalsely : Prop := tableRowsRow.holds Tryd.pinned (OpenSpec.ofChange tableRowsWrong)

/-- 'rickyardlaw05.TableCut': WHATEVER THE INPUT: true; the input reads as it did. -/
def tableCutSpec : ChangeSpec := { name := "tableCut", fn := fun _ => fun
  | [d1, d2, d3] => { results := [.lit (.bool true)], args := [d1, d2, d3] }
  | _ => none }
def tableCutRow : OpenClaim := { program := "ytlmlopdakbbbjaadoor", sum := "59f233df5b4c5623d130918a4e340174fb53746d1b77550e8d8f0a718f326728", func := "rickyard/rickyardlaw05.TableCut", spec := "tableCut", inPlace := ["internal/abi.NoEscape", "internal/bytealg.MakeNoZero"], unfollowed := true, recurses := true, named := ["rickyard/crc.quarters"], apart := false, laid := [("rickyard/crc.quarters", laid_rickyard_crc_quarters)] }
def TableCutSaid : Prop := tableCutRow.holds Tryd.pinned (OpenSpec.ofChange tableCutSpec)

/-- ITS FALSE NEIGHBOUR: 'it returns false'. Refute it at one input. -/
def tableCutWrong : ChangeSpec := { name := "tableCut", fn := fun _ => fun
  | [d1, d2, d3] => { results := [.lit (.bool false)], args := [d1, d2, d3] }
  | _ => none }
def TableCutWrongFalsely : Prop := tableCutRow.holds Tryd.pinned (OpenSpec.ofChange tableCutWrong)

/-- 'rickyardlaw05.TableApart': WHATEVER THE INPUT: true; the input reads as it did. -/
def tableApartSpec : ChangeSpec := { name := "tableApart", fn := fun _ => fun
  | [d1, d2, d3, d4] => { results := [.lit (.bool true)], args := [d1, d2, d3, d4] }
  | _ => none }
def tableApartRow : OpenClaim := { program := "ytlmlopdakbbbjaadoor", sum := "59f233df5b4c5623d130918a4e340174fb53746d1b77550e8d8f0a718f326728", func := "rickyard/rickyardlaw05.TableApart", spec := "tableApart", inPlace := ["internal/abi.NoEscape", "internal/bytealg.MakeNoZero"], unfollowed := true, recurses := true, named := ["rickyard/crc.quarters"], apart := false, laid := [("rickyard/crc.quarters", laid_rickyard_crc_quarters)] }
def TableApartSaid : Prop := tableApartRow.holds Tryd.pinned (OpenSpec.ofChange tableApartSpec)

/-- ITS FALSE NEIGHBOUR: 'it returns false'. Refute it at one input. -/
def tableApartWrong : ChangeSpec := { name := "tableApart", fn := fun _ => fun
  | [d1, d2, d3, d4] => { results := [.lit (.bool false)], args := [d1, d2, d3, d4] }
  | _ => none }
def TableApartWrongFalsely : Prop := tableApartRow.holds Tryd.pinned (OpenSpec.ofChange tableApartWrong)

/-- 'rickyardlaw05.TableBlocks': WHATEVER THE INPUT: true; the input reads as it did. -/
def tableBlocksSpec : ChangeSpec := { name := "tableBlocks", fn := fun _ => fun
  | [d1, d2] => { results := [.lit (.bool true)], args := [d1, d2] }
  | _ => none }
def tableBlocksRow : OpenClaim := { program := "ytlmlopdakbbbjaadoor", sum := "59f233df5b4c5623d130918a4e340174fb53746d1b77550e8d8f0a718f326728", func := "rickyard/rickyardlaw05.TableBlocks", spec := "tableBlocks", inPlace := ["internal/abi.NoEscape", "internal/bytealg.MakeNoZero"], unfollowed := true, recurses := true, named := ["rickyard/crc.quarters"], apart := false, laid := [("rickyard/crc.quarters", laid_rickyard_crc_quarters)] }
def TableBlocksSaid : Prop := tableBlocksRow.holds Tryd.pinned (OpenSpec.ofChange tableBlocksSpec)

/-- ITS FALSE NEIGHBOUR: 'it returns false'. Refute it at one input. -/
def tableBlocksWrong : ChangeSpec := { name := "tableBlocks", fn := fun _ => fun
  | [d1, d2] => { results := [.lit (.bool false)], args := [d1, d2] }
  | _ => none }
def TableBlocksWrongFalsely : Prop := tableBlocksRow.holds Tryd.pinned (OpenSpec.ofChange tableBlocksWrong)

/- THE SECOND FORM. 'bulk': how many values and letters a reading holds, each counted each time it is reached (what is shared counts as often as it is met; a slice's spare places count too). A statement '..UptoSaid' is the law's where the arguments, and the package variables that the reading takes, are together of bulk at most 1048576: NARROWER than '..Said'. Prove '..Said' where nothing that the law and all that it calls make is longer than what came in: it says more and counts as full. Else prove '..UptoSaid'. A law counts once. -/
mutual
def uptoBulk {H : Type} : DataW H → Nat
  | .lit (.string bytes) => bytes.length + 1
  | .lit _ => 1
  | .nil => 1
  | .ptr d => uptoBulk d + 1
  | .slice elems spare => uptoBulkAll elems + uptoBulkAll spare + 1
  | .agg parts => uptoBulkAll parts + 1
  | .iface _ d => uptoBulk d + 1
  | .map entries => uptoBulkEntries entries + 1
  | .held _ => 1
def uptoBulkAll {H : Type} : List (DataW H) → Nat
  | [] => 0
  | d :: r => uptoBulk d + uptoBulkAll r
def uptoBulkEntries {H : Type} : List (Lit × DataW H) → Nat
  | [] => 0
  | x :: r => uptoBulkEntry x + uptoBulkEntries r
def uptoBulkEntry {H : Type} : Lit × DataW H → Nat
  | (.string bytes, d) => bytes.length + uptoBulk d + 1
  | (_, d) => uptoBulk d + 1
 end
def uptoSmall : (H : Type) → List (DataW H) → Bool := fun _ ds => decide (uptoBulkAll ds ≤ 1048576)
def OpenSpec.upto (s : _root_.Go.ChangeSpec) : _root_.Go.OpenSpec := { _root_.Go.OpenSpec.ofChange s with cond := some uptoSmall }

/-- 'rickyardlaw05.TableStamps', WHERE WHAT IT READS IS OF BULK AT MOST 1048576: true; the input reads as it did. -/
def tableStampsUptoRow : OpenClaim := { program := "ytlmlopdakbbbjaadoor", sum := "59f233df5b4c5623d130918a4e340174fb53746d1b77550e8d8f0a718f326728", func := "rickyard/rickyardlaw05.TableStamps", spec := "tableStamps", inPlace := ["internal/abi.NoEscape", "internal/bytealg.MakeNoZero"], unfollowed := true, recurses := true, named := ["rickyard/crc.quarters"], apart := false, laid := [("rickyard/crc.quarters", laid_rickyard_crc_quarters)], narrowed := true }
def TableStampsUptoSaid : Prop := tableStampsUptoRow.holds Tryd.pinned (OpenSpec.upto tableStampsSpec)

/-- 'rickyardlaw05.TableRows', WHERE WHAT IT READS IS OF BULK AT MOST 1048576: true; the input reads as it did. -/
def tableRowsUptoRow : OpenClaim := { program := "ytlmlopdakbbbjaadoor", sum := "59f233df5b4c5623d130918a4e340174fb53746d1b77550e8d8f0a718f326728", func := "rickyard/rickyardlaw05.TableRows", spec := "tableRows", inPlace := ["internal/abi.NoEscape", "internal/bytealg.MakeNoZero"], unfollowed := true, recurses := true, named := ["rickyard/crc.quarters"], apart := false, laid := [("rickyard/crc.quarters", laid_rickyard_crc_quarters)], narrowed := true }
def TableRowsUptoSaid : Prop := tableRowsUptoRow.holds Tryd.pinned (OpenSpec.upto tableRowsSpec)

/-- 'rickyardlaw05.TableCut', WHERE WHAT IT READS IS OF BULK AT MOST 1048576: true; the input reads as it did. -/
def tableCutUptoRow : OpenClaim := { program := "ytlmlopdakbbbjaadoor", sum := "59f233df5b4c5623d130918a4e340174fb53746d1b77550e8d8f0a718f326728", func := "rickyard/rickyardlaw05.TableCut", spec := "tableCut", inPlace := ["internal/abi.NoEscape", "internal/bytealg.MakeNoZero"], unfollowed := true, recurses := true, named := ["rickyard/crc.quarters"], apart := false, laid := [("rickyard/crc.quarters", laid_rickyard_crc_quarters)], narrowed := true }
def TableCutUptoSaid : Prop := tableCutUptoRow.holds Tryd.pinned (OpenSpec.upto tableCutSpec)

/-- 'rickyardlaw05.TableApart', WHERE WHAT IT READS IS OF BULK AT MOST 1048576: true; the input reads as it did. -/
def tableApartUptoRow : OpenClaim := { program := "ytlmlopdakbbbjaadoor", sum := "59f233df5b4c5623d130918a4e340174fb53746d1b77550e8d8f0a718f326728", func := "rickyard/rickyardlaw05.TableApart", spec := "tableApart", inPlace := ["internal/abi.NoEscape", "internal/bytealg.MakeNoZero"], unfollowed := true, recurses := true, named := ["rickyard/crc.quarters"], apart := false, laid := [("rickyard/crc.quarters", laid_rickyard_crc_quarters)], narrowed := true }
def TableApartUptoSaid : Prop := tableApartUptoRow.holds Tryd.pinned (OpenSpec.upto tableApartSpec)

/-- 'rickyardlaw05.TableBlocks', WHERE WHAT IT READS IS OF BULK AT MOST 1048576: true; the input reads as it did. -/
def tableBlocksUptoRow : OpenClaim := { program := "ytlmlopdakbbbjaadoor", sum := "59f233df5b4c5623d130918a4e340174fb53746d1b77550e8d8f0a718f326728", func := "rickyard/rickyardlaw05.TableBlocks", spec := "tableBlocks", inPlace := ["internal/abi.NoEscape", "internal/bytealg.MakeNoZero"], unfollowed := true, recurses := true, named := ["rickyard/crc.quarters"], apart := false, laid := [("rickyard/crc.quarters", laid_rickyard_crc_quarters)], narrowed := true }
def TableBlocksUptoSaid : Prop := tableBlocksUptoRow.holds Tryd.pinned (OpenSpec.upto tableBlocksSpec)

end Rows
end Go.Proofs.YtlmlopdakbbbjaaDoor
