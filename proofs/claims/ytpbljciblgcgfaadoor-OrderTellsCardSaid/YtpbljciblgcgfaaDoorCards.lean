/-
  DERIVED. GIVEN WITH THE SEED: THE CARDS: each row of YtpbljciblgcgfaaDoorRows.lean that lists a variable, with what it lists TIED to the program's text (the seventh form; the later family's looks); each row that meets fmt, with fmt's text TOLD by the authors' own Lean function (tested against real Go, not proved from fmt's source: count such statements apart). THE CARD IS WHAT COUNTS. Prove the row's statement (the work); the ties are given (YtpbljciblgcgfaaDoorTie.lean); close each card by the builder's one call (the guide's Derived/Test/ToyasCard.lean, 'card_holds'). Laid BY PROGRAM, IN A SANDBOX (cutbox-door.mjs). By AI agents, Wed Nov 11 2026. No macro, syntax, notation, axiom, sorry.
-/
import Derived.Test.YtpbljciblgcgfaaDoorRows
import GoSem.ClaimSeven
namespace Go.Proofs.YtpbljciblgcgfaaDoor
namespace Rows

/-- THE TIED CARD OF 'seisinlaw02.RelTells'. -/
def relTellsCard : Claim7 := { stood := { row := relTellsRow, standIns := [], harness := (true, "3058daa66e7530797340c4a796e19b3d6270ca6ace33f5cb6cdc9aa382d29338"), looks := false }, kinds := [], alts := [], laidByText := true, laidKinds := [.data], laidTests := true, laidLooks := .later }
def RelTellsCardSaid : Prop := Claim7.holds Tryd.pinned (.plain (OpenSpec.ofChange relTellsSpec)) relTellsCard

/-- THE TIED CARD OF 'seisinlaw02.RelRounds'. -/
def relRoundsCard : Claim7 := { stood := { row := relRoundsRow, standIns := [], harness := (true, "3058daa66e7530797340c4a796e19b3d6270ca6ace33f5cb6cdc9aa382d29338"), looks := false }, kinds := [], alts := [], laidByText := true, laidKinds := [.data], laidTests := true, laidLooks := .later }
def RelRoundsCardSaid : Prop := Claim7.holds Tryd.pinned (.plain (OpenSpec.ofChange relRoundsSpec)) relRoundsCard

/-- THE TIED CARD OF 'seisinlaw03.OrderTells'. -/
def orderTellsCard : Claim7 := { stood := { row := orderTellsRow, standIns := [], harness := (true, "3058daa66e7530797340c4a796e19b3d6270ca6ace33f5cb6cdc9aa382d29338"), looks := false }, kinds := [], alts := [], laidByText := true, laidKinds := [.data], laidTests := true, laidLooks := .later }
def OrderTellsCardSaid : Prop := Claim7.holds Tryd.pinned (.plain (OpenSpec.ofChange orderTellsSpec)) orderTellsCard

/-- THE TIED CARD OF 'seisinlaw03.OrderAll'. -/
def orderAllCard : Claim7 := { stood := { row := orderAllRow, standIns := [], harness := (true, "3058daa66e7530797340c4a796e19b3d6270ca6ace33f5cb6cdc9aa382d29338"), looks := false }, kinds := [], alts := [], laidByText := true, laidKinds := [.data], laidTests := true, laidLooks := .later }
def OrderAllCardSaid : Prop := Claim7.holds Tryd.pinned (.plain (OpenSpec.ofChange orderAllSpec)) orderAllCard

/-- THE TIED CARD OF 'seisinlaw03.OrderCommon'. -/
def orderCommonCard : Claim7 := { stood := { row := orderCommonRow, standIns := [], harness := (true, "3058daa66e7530797340c4a796e19b3d6270ca6ace33f5cb6cdc9aa382d29338"), looks := false }, kinds := [], alts := [], laidByText := true, laidKinds := [.data], laidTests := true, laidLooks := .later }
def OrderCommonCardSaid : Prop := Claim7.holds Tryd.pinned (.plain (OpenSpec.ofChange orderCommonSpec)) orderCommonCard

/-- THE TIED CARD OF 'seisinlaw03.OrderTotal'. -/
def orderTotalCard : Claim7 := { stood := { row := orderTotalRow, standIns := [], harness := (true, "3058daa66e7530797340c4a796e19b3d6270ca6ace33f5cb6cdc9aa382d29338"), looks := false }, kinds := [], alts := [], laidByText := true, laidKinds := [.data], laidTests := true, laidLooks := .later }
def OrderTotalCardSaid : Prop := Claim7.holds Tryd.pinned (.plain (OpenSpec.ofChange orderTotalSpec)) orderTotalCard

/-- THE TIED CARD OF 'seisinlaw03.OrderCount'. -/
def orderCountCard : Claim7 := { stood := { row := orderCountRow, standIns := [], harness := (true, "3058daa66e7530797340c4a796e19b3d6270ca6ace33f5cb6cdc9aa382d29338"), looks := false }, kinds := [], alts := [], laidByText := true, laidKinds := [.data], laidTests := true, laidLooks := .later }
def OrderCountCardSaid : Prop := Claim7.holds Tryd.pinned (.plain (OpenSpec.ofChange orderCountSpec)) orderCountCard

/-- THE TIED CARD OF 'seisinlaw03.OrderWrong'. -/
def orderWrongCard : Claim7 := { stood := { row := orderWrongRow, standIns := [], harness := (true, "3058daa66e7530797340c4a796e19b3d6270ca6ace33f5cb6cdc9aa382d29338"), looks := false }, kinds := [], alts := [], laidByText := true, laidKinds := [.data], laidTests := true, laidLooks := .later }
def OrderWrongCardSaid : Prop := Claim7.holds Tryd.pinned (.plain (OpenSpec.ofChange orderWrongSpec)) orderWrongCard

/-- THE SECOND FORM's CARD OF 'seisinlaw02.RelTells'. -/
def relTellsUptoCard : Claim7 := { stood := { row := relTellsUptoRow, standIns := [], harness := (true, "3058daa66e7530797340c4a796e19b3d6270ca6ace33f5cb6cdc9aa382d29338"), looks := false }, kinds := [], alts := [], laidByText := true, laidKinds := [.data], laidTests := true, laidLooks := .later }
def RelTellsUptoCardSaid : Prop := Claim7.holds Tryd.pinned (.plain (OpenSpec.upto relTellsSpec)) relTellsUptoCard

/-- THE SECOND FORM's CARD OF 'seisinlaw02.RelRounds'. -/
def relRoundsUptoCard : Claim7 := { stood := { row := relRoundsUptoRow, standIns := [], harness := (true, "3058daa66e7530797340c4a796e19b3d6270ca6ace33f5cb6cdc9aa382d29338"), looks := false }, kinds := [], alts := [], laidByText := true, laidKinds := [.data], laidTests := true, laidLooks := .later }
def RelRoundsUptoCardSaid : Prop := Claim7.holds Tryd.pinned (.plain (OpenSpec.upto relRoundsSpec)) relRoundsUptoCard

/-- THE SECOND FORM's CARD OF 'seisinlaw03.OrderTells'. -/
def orderTellsUptoCard : Claim7 := { stood := { row := orderTellsUptoRow, standIns := [], harness := (true, "3058daa66e7530797340c4a796e19b3d6270ca6ace33f5cb6cdc9aa382d29338"), looks := false }, kinds := [], alts := [], laidByText := true, laidKinds := [.data], laidTests := true, laidLooks := .later }
def OrderTellsUptoCardSaid : Prop := Claim7.holds Tryd.pinned (.plain (OpenSpec.upto orderTellsSpec)) orderTellsUptoCard

/-- THE SECOND FORM's CARD OF 'seisinlaw03.OrderAll'. -/
def orderAllUptoCard : Claim7 := { stood := { row := orderAllUptoRow, standIns := [], harness := (true, "3058daa66e7530797340c4a796e19b3d6270ca6ace33f5cb6cdc9aa382d29338"), looks := false }, kinds := [], alts := [], laidByText := true, laidKinds := [.data], laidTests := true, laidLooks := .later }
def OrderAllUptoCardSaid : Prop := Claim7.holds Tryd.pinned (.plain (OpenSpec.upto orderAllSpec)) orderAllUptoCard

/-- THE SECOND FORM's CARD OF 'seisinlaw03.OrderCommon'. -/
def orderCommonUptoCard : Claim7 := { stood := { row := orderCommonUptoRow, standIns := [], harness := (true, "3058daa66e7530797340c4a796e19b3d6270ca6ace33f5cb6cdc9aa382d29338"), looks := false }, kinds := [], alts := [], laidByText := true, laidKinds := [.data], laidTests := true, laidLooks := .later }
def OrderCommonUptoCardSaid : Prop := Claim7.holds Tryd.pinned (.plain (OpenSpec.upto orderCommonSpec)) orderCommonUptoCard

/-- THE SECOND FORM's CARD OF 'seisinlaw03.OrderTotal'. -/
def orderTotalUptoCard : Claim7 := { stood := { row := orderTotalUptoRow, standIns := [], harness := (true, "3058daa66e7530797340c4a796e19b3d6270ca6ace33f5cb6cdc9aa382d29338"), looks := false }, kinds := [], alts := [], laidByText := true, laidKinds := [.data], laidTests := true, laidLooks := .later }
def OrderTotalUptoCardSaid : Prop := Claim7.holds Tryd.pinned (.plain (OpenSpec.upto orderTotalSpec)) orderTotalUptoCard

/-- THE SECOND FORM's CARD OF 'seisinlaw03.OrderCount'. -/
def orderCountUptoCard : Claim7 := { stood := { row := orderCountUptoRow, standIns := [], harness := (true, "3058daa66e7530797340c4a796e19b3d6270ca6ace33f5cb6cdc9aa382d29338"), looks := false }, kinds := [], alts := [], laidByText := true, laidKinds := [.data], laidTests := true, laidLooks := .later }
def OrderCountUptoCardSaid : Prop := Claim7.holds Tryd.pinned (.plain (OpenSpec.upto orderCountSpec)) orderCountUptoCard

/-- THE SECOND FORM's CARD OF 'seisinlaw03.OrderWrong'. -/
def orderWrongUptoCard : Claim7 := { stood := { row := orderWrongUptoRow, standIns := [], harness := (true, "3058daa66e7530797340c4a796e19b3d6270ca6ace33f5cb6cdc9aa382d29338"), looks := false }, kinds := [], alts := [], laidByText := true, laidKinds := [.data], laidTests := true, laidLooks := .later }
def OrderWrongUptoCardSaid : Prop := Claim7.holds Tryd.pinned (.plain (OpenSpec.upto orderWrongSpec)) orderWrongUptoCard
end Rows
end Go.Proofs.YtpbljciblgcgfaaDoor
