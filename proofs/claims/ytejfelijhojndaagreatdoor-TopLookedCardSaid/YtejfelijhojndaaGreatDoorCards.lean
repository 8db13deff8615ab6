/-
  DERIVED. GIVEN WITH THE SEED: THE CARDS: each row of YtejfelijhojndaaGreatDoorRows.lean that lists a variable, with what it lists TIED to the program's text (the seventh form; the later family's looks); each row that meets fmt, with fmt's text TOLD by the authors' own Lean function (tested against real Go, not proved from fmt's source: count such statements apart). THE CARD IS WHAT COUNTS. Prove the row's statement (the work); the ties are given (YtejfelijhojndaaGreatDoorTie.lean); close each card by the builder's one call (the guide's Derived/Test/ToyasCard.lean, 'card_holds'). Laid BY PROGRAM, IN A SANDBOX (cutbox-door.mjs). By AI agents, Wed Nov 11 2026. No macro, syntax, notation, axiom, sorry.
-/
import Derived.Test.YtejfelijhojndaaGreatDoorRows
import GoSem.ClaimSeven
namespace Go.Proofs.YtejfelijhojndaaGreatDoor
namespace Rows

/-- THE TIED CARD OF 'palfreytop.TopLooked'. -/
def topLookedCard : Claim7 := { stood := { row := topLookedRow, standIns := [], harness := (true, "fcaa7f1d506d314257e6ca8179a8f8d4a2bf248b5fd9e125db21193d121c1367"), looks := true }, kinds := [], alts := [], laidByText := true, laidKinds := [.handle], laidTests := true, laidLooks := .later }
def TopLookedCardSaid : Prop := Claim7.holds Tryz.pinned (.plain (OpenSpec.ofChange topLookedSpec)) topLookedCard

/-- THE SECOND FORM's CARD OF 'palfreytop.TopLooked'. -/
def topLookedUptoCard : Claim7 := { stood := { row := topLookedUptoRow, standIns := [], harness := (true, "fcaa7f1d506d314257e6ca8179a8f8d4a2bf248b5fd9e125db21193d121c1367"), looks := true }, kinds := [], alts := [], laidByText := true, laidKinds := [.handle], laidTests := true, laidLooks := .later }
def TopLookedUptoCardSaid : Prop := Claim7.holds Tryz.pinned (.plain (OpenSpec.upto topLookedSpec)) topLookedUptoCard
end Rows
end Go.Proofs.YtejfelijhojndaaGreatDoor
