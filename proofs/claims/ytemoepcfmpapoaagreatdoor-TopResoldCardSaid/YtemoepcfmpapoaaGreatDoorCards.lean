/-
  DERIVED. GIVEN WITH THE SEED: THE CARDS: each row of YtemoepcfmpapoaaGreatDoorRows.lean that lists a variable, with what it lists TIED to the program's text (the seventh form; the later family's looks); each row that meets fmt, with fmt's text TOLD by the authors' own Lean function (tested against real Go, not proved from fmt's source: count such statements apart). THE CARD IS WHAT COUNTS. Prove the row's statement (the work); the ties are given (YtemoepcfmpapoaaGreatDoorTie.lean); close each card by the builder's one call (the guide's Derived/Test/ToyasCard.lean, 'card_holds'). Laid BY PROGRAM, IN A SANDBOX (cutbox-door.mjs). By AI agents, Wed Nov 11 2026. No macro, syntax, notation, axiom, sorry.
-/
import Derived.Test.YtemoepcfmpapoaaGreatDoorRows
import GoSem.ClaimSeven
namespace Go.Proofs.YtemoepcfmpapoaaGreatDoor
namespace Rows

/-- THE TIED CARD OF 'palfreytop.TopResold'. -/
def topResoldCard : Claim7 := { stood := { row := topResoldRow, standIns := [], harness := (true, "09b0cac223eb2f0c77a62bda48b8675409539d11ac2efb05e560bd5e5a0d2b08"), looks := true }, kinds := [], alts := [], laidByText := true, laidKinds := [.handle], laidTests := true, laidLooks := .later }
def TopResoldCardSaid : Prop := Claim7.holds Tryz.pinned (.plain (OpenSpec.ofChange topResoldSpec)) topResoldCard

/-- THE SECOND FORM's CARD OF 'palfreytop.TopResold'. -/
def topResoldUptoCard : Claim7 := { stood := { row := topResoldUptoRow, standIns := [], harness := (true, "09b0cac223eb2f0c77a62bda48b8675409539d11ac2efb05e560bd5e5a0d2b08"), looks := true }, kinds := [], alts := [], laidByText := true, laidKinds := [.handle], laidTests := true, laidLooks := .later }
def TopResoldUptoCardSaid : Prop := Claim7.holds Tryz.pinned (.plain (OpenSpec.upto topResoldSpec)) topResoldUptoCard
end Rows
end Go.Proofs.YtemoepcfmpapoaaGreatDoor
