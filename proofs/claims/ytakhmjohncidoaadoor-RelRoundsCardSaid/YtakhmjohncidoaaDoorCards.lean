/-
  DERIVED. GIVEN WITH THE SEED: THE CARDS: each row of YtakhmjohncidoaaDoorRows.lean that lists a variable, with what it lists TIED to the program's text (the seventh form; the later family's looks); each row that meets fmt, with fmt's text TOLD by the authors' own Lean function (tested against real Go, not proved from fmt's source: count such statements apart). THE CARD IS WHAT COUNTS. Prove the row's statement (the work); the ties are given (YtakhmjohncidoaaDoorTie.lean); close each card by the builder's one call (the guide's Derived/Test/ToyasCard.lean, 'card_holds'). Laid BY PROGRAM, IN A SANDBOX (cutbox-door.mjs). By AI agents, Wed Nov 11 2026. No macro, syntax, notation, axiom, sorry.
-/
import Derived.Test.YtakhmjohncidoaaDoorRows
import GoSem.ClaimSeven
namespace Go.Proofs.YtakhmjohncidoaaDoor
namespace Rows

/-- THE TIED CARD OF 'seisinlaw02.RelTells'. -/
def relTellsCard : Claim7 := { stood := { row := relTellsRow, standIns := [], harness := (true, "994547f2cab48dcb5c5e1594080ac737c40d468a5f589e72634041946dc7ab49"), looks := false }, kinds := [], alts := [], laidByText := true, laidKinds := [.data], laidTests := true, laidLooks := .later }
def RelTellsCardSaid : Prop := Claim7.holds Tryd.pinned (.plain (OpenSpec.ofChange relTellsSpec)) relTellsCard

/-- THE TIED CARD OF 'seisinlaw02.RelRounds'. -/
def relRoundsCard : Claim7 := { stood := { row := relRoundsRow, standIns := [], harness := (true, "994547f2cab48dcb5c5e1594080ac737c40d468a5f589e72634041946dc7ab49"), looks := false }, kinds := [], alts := [], laidByText := true, laidKinds := [.data], laidTests := true, laidLooks := .later }
def RelRoundsCardSaid : Prop := Claim7.holds Tryd.pinned (.plain (OpenSpec.ofChange relRoundsSpec)) relRoundsCard

/-- THE SECOND FORM's CARD OF 'seisinlaw02.RelTells'. -/
def relTellsUptoCard : Claim7 := { stood := { row := relTellsUptoRow, standIns := [], harness := (true, "994547f2cab48dcb5c5e1594080ac737c40d468a5f589e72634041946dc7ab49"), looks := false }, kinds := [], alts := [], laidByText := true, laidKinds := [.data], laidTests := true, laidLooks := .later }
def RelTellsUptoCardSaid : Prop := Claim7.holds Tryd.pinned (.plain (OpenSpec.upto relTellsSpec)) relTellsUptoCard

/-- THE SECOND FORM's CARD OF 'seisinlaw02.RelRounds'. -/
def relRoundsUptoCard : Claim7 := { stood := { row := relRoundsUptoRow, standIns := [], harness := (true, "994547f2cab48dcb5c5e1594080ac737c40d468a5f589e72634041946dc7ab49"), looks := false }, kinds := [], alts := [], laidByText := true, laidKinds := [.data], laidTests := true, laidLooks := .later }
def RelRoundsUptoCardSaid : Prop := Claim7.holds Tryd.pinned (.plain (OpenSpec.upto relRoundsSpec)) relRoundsUptoCard
end Rows
end Go.Proofs.YtakhmjohncidoaaDoor
