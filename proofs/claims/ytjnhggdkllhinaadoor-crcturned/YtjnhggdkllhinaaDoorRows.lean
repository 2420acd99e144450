/-
  NARROWER THAN 'FOR EVERY INPUT', by the rows' own cells (each row's printed sentence says how): CrcSums: laid · CrcPuts: laid · CrcTurned: laid · CrcCut: laid · CrcParts: laid · CrcWide: laid.
  DERIVED. THE GIVEN ROWS OF THIS SEAT. 6 by the template 'for every input the law returns true; each argument reads behind the call as it read before'; 0 by the template 'total and deterministic' (their statements: YtjnhggdkllhinaaDoorTotals.lean).
  GIVEN WITH THE SEED: the statements are not yours to turn. If you find one false, say at which input.
  Laid BY PROGRAM, IN A SANDBOX (cutbox-rows.mjs): the forced cells as the released guide's own fill.sh prints them over the translation 45f5d4a99c0286ea… (all of the seat's roots in one cut). By AI agents, Wed Nov 11 2026. No macro, syntax, notation, axiom, sorry.
-/
import Derived.Test.YtjnhggdkllhinaaDoorChecked
import GoSem.Claim
import GoSem.ClaimJoined
import GoSem.ClaimMapViews
import Derived.JoinedTies
import Derived.KernelRfl
namespace Go.Proofs.YtjnhggdkllhinaaDoor
/- THE CELL 'sum', in the pinned program and in every row, IS THE sha256 OF THE DUMP (.gsa) THAT YtjnhggdkllhinaaDoorProg.lean LOADS. Nothing in Lean hashes anything: it is a label: what it is worth is what the hold of that sum in a sandbox is worth. -/
noncomputable def Tryd.pinned : Pinned := { name := "ytjnhggdkllhinaadoor", sum := "45f5d4a99c0286ea56ed2af17aabfcc25a68016518e3c2b1a9cda1570d69d569", checked := Tryd.checked }
namespace Rows
def none {H : Type} : Left H := { results := [], args := [] }

/- WHAT THE LISTED PACKAGE-LEVEL VARIABLES READ AS WHEN THE CALL BEGINS. Each datum BY PROGRAM (the guide's laid-datum.mjs) off the statement by which the dump's own 'gosem.cut.vars' lays the variable. In a bare row this is a premise. The card (YtjnhggdkllhinaaDoorCards.lean) ties it to the program's text. -/
def laid_rickyard_crc_quarters {H : Type} : DataW H := .agg [.lit (.int .u32 0), .lit (.int .u32 498536548), .lit (.int .u32 997073096), .lit (.int .u32 651767980), .lit (.int .u32 1994146192), .lit (.int .u32 1802195444), .lit (.int .u32 1303535960), .lit (.int .u32 1342533948), .lit (.int .u32 3988292384), .lit (.int .u32 4027552580), .lit (.int .u32 3604390888), .lit (.int .u32 3412177804), .lit (.int .u32 2607071920), .lit (.int .u32 2262029012), .lit (.int .u32 2685067896), .lit (.int .u32 3183342108)]

/-- 'rickyardlaw02.CrcSums': WHATEVER THE INPUT: true; the input reads as it did. -/
def crcSumsSpec : ChangeSpec := { name := "crcSums", fn := fun _ => fun
  | [d1, d2, d3] => { results := [.lit (.bool true)], args := [d1, d2, d3] }
  | _ => none }
def crcSumsRow : OpenClaim := { program := "ytjnhggdkllhinaadoor", sum := "45f5d4a99c0286ea56ed2af17aabfcc25a68016518e3c2b1a9cda1570d69d569", func := "rickyard/rickyardlaw02.CrcSums", spec := "crcSums", named := ["rickyard/crc.quarters"], apart := false, laid := [("rickyard/crc.quarters", laid_rickyard_crc_quarters)] }
def CrcSumsSaid : Prop := crcSumsRow.holds Tryd.pinned (OpenSpec.ofChange crcSumsSpec)

/-- ITS FALSE NEIGHBOUR: 'it returns false'. Refute it at one input. -/
def crcSumsWrong : ChangeSpec := { name := "crcSums", fn := fun _ => fun
  | [d1, d2, d3] => { results := [.lit (.bool false)], args := [d1, d2, d3] }
  | _ => none }
def CrcSumsWrongFalsely : Prop := crcSumsRow.holds Tryd.pinned (OpenSpec.ofChange crcSumsWrong)

/-- 'rickyardlaw02.CrcPuts': WHATEVER THE INPUT: true; the input reads as it did. -/
def crcPutsSpec : ChangeSpec := { name := "crcPuts", fn := fun _ => fun
  | [d1, d2] => { results := [.lit (.bool true)], args := [d1, d2] }
  | _ => none }
def crcPutsRow : OpenClaim := { program := "ytjnhggdkllhinaadoor", sum := "45f5d4a99c0286ea56ed2af17aabfcc25a68016518e3c2b1a9cda1570d69d569", func := "rickyard/rickyardlaw02.CrcPuts", spec := "crcPuts", unfollowed := true, recurses := true, named := ["rickyard/crc.quarters"], apart := false, laid := [("rickyard/crc.quarters", laid_rickyard_crc_quarters)] }
def CrcPutsSaid : Prop := crcPutsRow.holds Tryd.pinned (OpenSpec.ofChange crcPutsSpec)

/-- ITS FALSE NEIGHBOUR: 'it returns false'. Refute it at one input. -/
def crcPutsWrong : ChangeSpec := { name := "crcPuts", fn := fun _ => fun
  | [d1, d2] => { results := [.lit (.bool false)], args := [d1, d2] }
  | _ => none }
def CrcPutsWrongFalsely : Prop := crcPutsRow.holds Tryd.pinned (OpenSpec.ofChange crcPutsWrong)

/-- 'rickyardlaw02.CrcTurned': WHATEVER THE INPUT: true; the input reads as it did. -/
def crcTurnedSpec : ChangeSpec := { name := "crcTurned", fn := fun _ => fun
  | [d1, d2] => { results := [.lit (.bool true)], args := [d1, d2] }
  | _ => none }
def crcTurnedRow : OpenClaim := { program := "ytjnhggdkllhinaadoor", sum := "45f5d4a99c0286ea56ed2af17aabfcc25a68016518e3c2b1a9cda1570d69d569", func := "rickyard/rickyardlaw02.CrcTurned", spec := "crcTurned", named := ["rickyard/crc.quarters"], apart := false, laid := [("rickyard/crc.quarters", laid_rickyard_crc_quarters)] }
def CrcTurnedSaid : Prop := crcTurnedRow.holds Tryd.pinned (OpenSpec.ofChange crcTurnedSpec)

/-- ITS FALSE NEIGHBOUR: 'it returns false'. Refute it at one input. -/
def crcTurnedWrong : ChangeSpec := { name := "crcTurned", fn := fun _ => fun
  | [d1, d2] => { results := [.lit (.bool false)], args := [d1, d2] }
  | _ => none }
def CrcTurnedWrongFalsely : Prop := crcTurnedRow.holds Tryd.pinned (OpenSpec.ofChange crcTurnedWrong)

/-- 'rickyardlaw02.CrcCut': WHATEVER THE INPUT: true; the input reads as it did. -/
def crcCutSpec : ChangeSpec := { name := "crcCut", fn := fun _ => fun
  | [d1, d2] => { results := [.lit (.bool true)], args := [d1, d2] }
  | _ => none }
def crcCutRow : OpenClaim := { program := "ytjnhggdkllhinaadoor", sum := "45f5d4a99c0286ea56ed2af17aabfcc25a68016518e3c2b1a9cda1570d69d569", func := "rickyard/rickyardlaw02.CrcCut", spec := "crcCut", unfollowed := true, recurses := true, named := ["rickyard/crc.quarters"], apart := false, laid := [("rickyard/crc.quarters", laid_rickyard_crc_quarters)] }
def CrcCutSaid : Prop := crcCutRow.holds Tryd.pinned (OpenSpec.ofChange crcCutSpec)

/-- ITS FALSE NEIGHBOUR: 'it returns false'. Refute it at one input. -/
def crcCutWrong : ChangeSpec := { name := "crcCut", fn := fun _ => fun
  | [d1, d2] => { results := [.lit (.bool false)], args := [d1, d2] }
  | _ => none }
def CrcCutWrongFalsely : Prop := crcCutRow.holds Tryd.pinned (OpenSpec.ofChange crcCutWrong)

/-- 'rickyardlaw02.CrcParts': WHATEVER THE INPUT: true; the input reads as it did. -/
def crcPartsSpec : ChangeSpec := { name := "crcParts", fn := fun _ => fun
  | [d] => { results := [.lit (.bool true)], args := [d] }
  | _ => none }
def crcPartsRow : OpenClaim := { program := "ytjnhggdkllhinaadoor", sum := "45f5d4a99c0286ea56ed2af17aabfcc25a68016518e3c2b1a9cda1570d69d569", func := "rickyard/rickyardlaw02.CrcParts", spec := "crcParts", named := ["rickyard/crc.quarters"], apart := false, laid := [("rickyard/crc.quarters", laid_rickyard_crc_quarters)] }
def CrcPartsSaid : Prop := crcPartsRow.holds Tryd.pinned (OpenSpec.ofChange crcPartsSpec)

/-- ITS FALSE NEIGHBOUR: 'it returns false'. Refute it at one input. -/
def crcPartsWrong : ChangeSpec := { name := "crcParts", fn := fun _ => fun
  | [d] => { results := [.lit (.bool false)], args := [d] }
  | _ => none }
def CrcPartsWrongFalsely : Prop := crcPartsRow.holds Tryd.pinned (OpenSpec.ofChange crcPartsWrong)

/-- 'rickyardlaw02.CrcWide': WHATEVER THE INPUT: true; the input reads as it did. -/
def crcWideSpec : ChangeSpec := { name := "crcWide", fn := fun _ => fun
  | [d1, d2] => { results := [.lit (.bool true)], args := [d1, d2] }
  | _ => none }
def crcWideRow : OpenClaim := { program := "ytjnhggdkllhinaadoor", sum := "45f5d4a99c0286ea56ed2af17aabfcc25a68016518e3c2b1a9cda1570d69d569", func := "rickyard/rickyardlaw02.CrcWide", spec := "crcWide", named := ["rickyard/crc.quarters"], apart := false, laid := [("rickyard/crc.quarters", laid_rickyard_crc_quarters)] }
def CrcWideSaid : Prop := crcWideRow.holds Tryd.pinned (OpenSpec.ofChange crcWideSpec)

/-- ITS FALSE NEIGHBOUR: 'it returns false'. Refute it at one input. -/
def crcWideWrong : ChangeSpec := { name := "crcWide", fn := fun _ => fun
  | [d1, d2] => { results := [.lit (.bool false)], args := [d1, d2] }
  | _ => none }
def CrcWideWrongFalsely : Prop := crcWideRow.holds Tryd.pinned (OpenSpec.ofChange crcWideWrong)

/- THE SECOND FORM. 'bulk': how many values and letters a reading holds, each counted each time it is reached (what is shared counts as often as it is met; a slice's spare places count too). A statement '..UptoSaid' is the law's where the arguments, and the package variables that the reading takes, are together of bulk at most 1048576: NARROWER than '..Said'. Prove '..Said' where nothing that the law and all that it calls make is longer than what came in: it says more and counts as full. Else prove '..UptoSaid'. A law counts once. -/
mutual
def uptoBulk {H : Type} : DataW H → Nat
  | .lit (.string bytes) => bytes.length + 1
  | .lit _ => 1
  | .nil => 1
  | .ptr d => uptoBulk d + 1
  | .slice elems spare => uptoBulkAll elems + uptoBulkAll spare + 1
  | .agg parts => uptoBulkAll parts + 1
  | .iface _ d => uptoBulk d + 1
  | .map entries => uptoBulkEntries entries + 1
  | .held _ => 1
def uptoBulkAll {H : Type} : List (DataW H) → Nat
  | [] => 0
  | d :: r => uptoBulk d + uptoBulkAll r
def uptoBulkEntries {H : Type} : List (Lit × DataW H) → Nat
  | [] => 0
  | x :: r => uptoBulkEntry x + uptoBulkEntries r
def uptoBulkEntry {H : Type} : Lit × DataW H → Nat
  | (.string bytes, d) => bytes.length + uptoBulk d + 1
  | (_, d) => uptoBulk d + 1
 end
def uptoSmall : (H : Type) → List (DataW H) → Bool := fun _ ds => decide (uptoBulkAll ds ≤ 1048576)
def OpenSpec.upto (s : _root_.Go.ChangeSpec) : _root_.Go.OpenSpec := { _root_.Go.OpenSpec.ofChange s with cond := some uptoSmall }

/-- 'rickyardlaw02.CrcSums', WHERE WHAT IT READS IS OF BULK AT MOST 1048576: true; the input reads as it did. -/
def crcSumsUptoRow : OpenClaim := { program := "ytjnhggdkllhinaadoor", sum := "45f5d4a99c0286ea56ed2af17aabfcc25a68016518e3c2b1a9cda1570d69d569", func := "rickyard/rickyardlaw02.CrcSums", spec := "crcSums", named := ["rickyard/crc.quarters"], apart := false, laid := [("rickyard/crc.quarters", laid_rickyard_crc_quarters)], narrowed := true }
def CrcSumsUptoSaid : Prop := crcSumsUptoRow.holds Tryd.pinned (OpenSpec.upto crcSumsSpec)

/-- 'rickyardlaw02.CrcPuts', WHERE WHAT IT READS IS OF BULK AT MOST 1048576: true; the input reads as it did. -/
def crcPutsUptoRow : OpenClaim := { program := "ytjnhggdkllhinaadoor", sum := "45f5d4a99c0286ea56ed2af17aabfcc25a68016518e3c2b1a9cda1570d69d569", func := "rickyard/rickyardlaw02.CrcPuts", spec := "crcPuts", unfollowed := true, recurses := true, named := ["rickyard/crc.quarters"], apart := false, laid := [("rickyard/crc.quarters", laid_rickyard_crc_quarters)], narrowed := true }
def CrcPutsUptoSaid : Prop := crcPutsUptoRow.holds Tryd.pinned (OpenSpec.upto crcPutsSpec)

/-- 'rickyardlaw02.CrcTurned', WHERE WHAT IT READS IS OF BULK AT MOST 1048576: true; the input reads as it did. -/
def crcTurnedUptoRow : OpenClaim := { program := "ytjnhggdkllhinaadoor", sum := "45f5d4a99c0286ea56ed2af17aabfcc25a68016518e3c2b1a9cda1570d69d569", func := "rickyard/rickyardlaw02.CrcTurned", spec := "crcTurned", named := ["rickyard/crc.quarters"], apart := false, laid := [("rickyard/crc.quarters", laid_rickyard_crc_quarters)], narrowed := true }
def CrcTurnedUptoSaid : Prop := crcTurnedUptoRow.holds Tryd.pinned (OpenSpec.upto crcTurnedSpec)

/-- 'rickyardlaw02.CrcCut', WHERE WHAT IT READS IS OF BULK AT MOST 1048576: true; the input reads as it did. -/
def crcCutUptoRow : OpenClaim := { program := "ytjnhggdkllhinaadoor", sum := "45f5d4a99c0286ea56ed2af17aabfcc25a68016518e3c2b1a9cda1570d69d569", func := "rickyard/rickyardlaw02.CrcCut", spec := "crcCut", unfollowed := true, recurses := true, named := ["rickyard/crc.quarters"], apart := false, laid := [("rickyard/crc.quarters", laid_rickyard_crc_quarters)], narrowed := true }
def CrcCutUptoSaid : Prop := crcCutUptoRow.holds Tryd.pinned (OpenSpec.upto crcCutSpec)

/-- 'rickyardlaw02.CrcParts', WHERE WHAT IT READS IS OF BULK AT MOST 1048576: true; the input reads as it did. -/
def crcPartsUptoRow : OpenClaim := { program := "ytjnhggdkllhinaadoor", sum := "45f5d4a99c0286ea56ed2af17aabfcc25a68016518e3c2b1a9cda1570d69d569", func := "rickyard/rickyardlaw02.CrcParts", spec := "crcParts", named := ["rickyard/crc.quarters"], apart := false, laid := [("rickyard/crc.quarters", laid_rickyard_crc_quarters)], narrowed := true }
def CrcPartsUptoSaid : Prop := crcPartsUptoRow.holds Tryd.pinned (OpenSpec.upto crcPartsSpec)

/-- 'rickyardlaw02.CrcWide', WHERE WHAT IT READS IS OF BULK AT MOST 1048576: true; the input reads as it did. -/
def crcWideUptoRow : OpenClaim := { program := "ytjnhggdkllhinaadoor", sum := "45f5d4a99c0286ea56ed2af17aabfcc25a68016518e3c2b1a9cda1570d69d569", func := "rickyard/rickyardlaw02.CrcWide", spec := "crcWide", named := ["rickyard/crc.quarters"], apart := false, laid := [("rickyard/crc.quarters", laid_rickyard_crc_quarters)], narrowed := true }
def CrcWideUptoSaid : Prop := crcWideUptoRow.holds Tryd.pinned (OpenSpec.upto crcWideSpec)

end Rows
end Go.Proofs.YtjnhggdkllhinaaDoor
