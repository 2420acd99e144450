/-
  DERIVED. GIVEN WITH THE SEED: THE CARDS: each row of YtlmlopdakbbbjaaDoorRows.lean that lists a variable, with what it lists TIED to the program's text (the seventh form; the later family's looks); each row that meets fmt, with fmt's text TOLD by the authors' own Lean function (tested against real Go, not proved from fmt's source: count such statements apart). THE CARD IS WHAT COUNTS. Prove the row's statement (the work); the ties are given (YtlmlopdakbbbjaaDoorTie.lean); close each card by the builder's one call (the guide's Derived/Test/ToyasCard.lean, 'card_holds'). Laid BY PROGRAM, IN A SANDBOX (cutbox-door.mjs). By AI agents, Wed Nov 11 2026. No macro, syntax, notation, axiom, sorry.
-/
import Derived.Test.YtlmlopdakbbbjaaDoorRows
import GoSem.ClaimSeven
namespace Go.Proofs.YtlmlopdakbbbjaaDoor
namespace Rows

/-- THE TIED CARD OF 'rickyardlaw05.TableStamps'. -/
def tableStampsCard : Claim7 := { stood := { row := tableStampsRow, standIns := [], harness := (true, "904efaa3c45d0ed3332a57ba30b1a902aa6fb14450f72b48b43f061cf84f20c4"), looks := false }, kinds := [], alts := [], laidByText := true, laidKinds := [.data], laidTests := true, laidLooks := .later }
def TableStampsCardSaid : Prop := Claim7.holds Tryd.pinned (.plain (OpenSpec.ofChange tableStampsSpec)) tableStampsCard

/-- THE TIED CARD OF 'rickyardlaw05.TableRows'. -/
def tableRowsCard : Claim7 := { stood := { row := tableRowsRow, standIns := [], harness := (true, "904efaa3c45d0ed3332a57ba30b1a902aa6fb14450f72b48b43f061cf84f20c4"), looks := false }, kinds := [], alts := [], laidByText := true, laidKinds := [.data], laidTests := true, laidLooks := .later }
def TableRowsCardSaid : Prop := Claim7.holds Tryd.pinned (.plain (OpenSpec.ofChange tableRowsSpec)) tableRowsCard

/-- THE TIED CARD OF 'rickyardlaw05.TableCut'. -/
def tableCutCard : Claim7 := { stood := { row := tableCutRow, standIns := [], harness := (true, "904efaa3c45d0ed3332a57ba30b1a902aa6fb14450f72b48b43f061cf84f20c4"), looks := false }, kinds := [], alts := [], laidByText := true, laidKinds := [.data], laidTests := true, laidLooks := .later }
def TableCutCardSaid : Prop := Claim7.holds Tryd.pinned (.plain (OpenSpec.ofChange tableCutSpec)) tableCutCard

/-- THE TIED CARD OF 'rickyardlaw05.TableApart'. -/
def tableApartCard : Claim7 := { stood := { row := tableApartRow, standIns := [], harness := (true, "904efaa3c45d0ed3332a57ba30b1a902aa6fb14450f72b48b43f061cf84f20c4"), looks := false }, kinds := [], alts := [], laidByText := true, laidKinds := [.data], laidTests := true, laidLooks := .later }
def TableApartCardSaid : Prop := Claim7.holds Tryd.pinned (.plain (OpenSpec.ofChange tableApartSpec)) tableApartCard

/-- THE TIED CARD OF 'rickyardlaw05.TableBlocks'. -/
def tableBlocksCard : Claim7 := { stood := { row := tableBlocksRow, standIns := [], harness := (true, "904efaa3c45d0ed3332a57ba30b1a902aa6fb14450f72b48b43f061cf84f20c4"), looks := false }, kinds := [], alts := [], laidByText := true, laidKinds := [.data], laidTests := true, laidLooks := .later }
def TableBlocksCardSaid : Prop := Claim7.holds Tryd.pinned (.plain (OpenSpec.ofChange tableBlocksSpec)) tableBlocksCard

/-- THE SECOND FORM's CARD OF 'rickyardlaw05.TableStamps'. -/
def tableStampsUptoCard : Claim7 := { stood := { row := tableStampsUptoRow, standIns := [], harness := (true, "904efaa3c45d0ed3332a57ba30b1a902aa6fb14450f72b48b43f061cf84f20c4"), looks := false }, kinds := [], alts := [], laidByText := true, laidKinds := [.data], laidTests := true, laidLooks := .later }
def TableStampsUptoCardSaid : Prop := Claim7.holds Tryd.pinned (.plain (OpenSpec.upto tableStampsSpec)) tableStampsUptoCard

/-- THE SECOND FORM's CARD OF 'rickyardlaw05.TableRows'. -/
def tableRowsUptoCard : Claim7 := { stood := { row := tableRowsUptoRow, standIns := [], harness := (true, "904efaa3c45d0ed3332a57ba30b1a902aa6fb14450f72b48b43f061cf84f20c4"), looks := false }, kinds := [], alts := [], laidByText := true, laidKinds := [.data], laidTests := true, laidLooks := .later }
def TableRowsUptoCardSaid : Prop := Claim7.holds Tryd.pinned (.plain (OpenSpec.upto tableRowsSpec)) tableRowsUptoCard

/-- THE SECOND FORM's CARD OF 'rickyardlaw05.TableCut'. -/
def tableCutUptoCard : Claim7 := { stood := { row := tableCutUptoRow, standIns := [], harness := (true, "904efaa3c45d0ed3332a57ba30b1a902aa6fb14450f72b48b43f061cf84f20c4"), looks := false }, kinds := [], alts := [], laidByText := true, laidKinds := [.data], laidTests := true, laidLooks := .later }
def TableCutUptoCardSaid : Prop := Claim7.holds Tryd.pinned (.plain (OpenSpec.upto tableCutSpec)) tableCutUptoCard

/-- THE SECOND FORM's CARD OF 'rickyardlaw05.TableApart'. -/
def tableApartUptoCard : Claim7 := { stood := { row := tableApartUptoRow, standIns := [], harness := (true, "904efaa3c45d0ed3332a57ba30b1a902aa6fb14450f72b48b43f061cf84f20c4"), looks := false }, kinds := [], alts := [], laidByText := true, laidKinds := [.data], laidTests := true, laidLooks := .later }
def TableApartUptoCardSaid : Prop := Claim7.holds Tryd.pinned (.plain (OpenSpec.upto tableApartSpec)) tableApartUptoCard

/-- THE SECOND FORM's CARD OF 'rickyardlaw05.TableBlocks'. -/
def tableBlocksUptoCard : Claim7 := { stood := { row := tableBlocksUptoRow, standIns := [], harness := (true, "904efaa3c45d0ed3332a57ba30b1a902aa6fb14450f72b48b43f061cf84f20c4"), looks := false }, kinds := [], alts := [], laidByText := true, laidKinds := [.data], laidTests := true, laidLooks := .later }
def TableBlocksUptoCardSaid : Prop := Claim7.holds Tryd.pinned (.plain (OpenSpec.upto tableBlocksSpec)) tableBlocksUptoCard
end Rows
end Go.Proofs.YtlmlopdakbbbjaaDoor
