/-
  DERIVED. GIVEN WITH THE SEED: THE CARDS: each row of YtnndnjnpkjpkpaaGreatDoorRows.lean that lists a variable, with what it lists TIED to the program's text (the seventh form; the later family's looks); each row that meets fmt, with fmt's text TOLD by the authors' own Lean function (tested against real Go, not proved from fmt's source: count such statements apart). THE CARD IS WHAT COUNTS. Prove the row's statement (the work); the ties are given (YtnndnjnpkjpkpaaGreatDoorTie.lean); close each card by the builder's one call (the guide's Derived/Test/ToyasCard.lean, 'card_holds'). Laid BY PROGRAM, IN A SANDBOX (cutbox-door.mjs). By AI agents, Wed Nov 11 2026. No macro, syntax, notation, axiom, sorry.
-/
import Derived.Test.YtnndnjnpkjpkpaaGreatDoorRows
import GoSem.ClaimSeven
namespace Go.Proofs.YtnndnjnpkjpkpaaGreatDoor
namespace Rows

/-- THE TIED CARD OF 'royaltylaw06.FactsetMatchesReference'. -/
def factsetMatchesReferenceCard : Claim7 := { stood := { row := factsetMatchesReferenceRow, standIns := [], harness := (true, "34026b6208ebcc0f0e45b5132415657a2751fe42c0b2f6214d01352df640e528"), looks := false }, kinds := [], alts := [], laidByText := true, laidKinds := [.data], laidTests := true, laidLooks := .later }
def FactsetMatchesReferenceCardSaid : Prop := Claim7.holds Tryz.pinned (.plain (OpenSpec.ofChange factsetMatchesReferenceSpec)) factsetMatchesReferenceCard

/-- THE SECOND FORM's CARD OF 'royaltylaw06.FactsetMatchesReference'. -/
def factsetMatchesReferenceUptoCard : Claim7 := { stood := { row := factsetMatchesReferenceUptoRow, standIns := [], harness := (true, "34026b6208ebcc0f0e45b5132415657a2751fe42c0b2f6214d01352df640e528"), looks := false }, kinds := [], alts := [], laidByText := true, laidKinds := [.data], laidTests := true, laidLooks := .later }
def FactsetMatchesReferenceUptoCardSaid : Prop := Claim7.holds Tryz.pinned (.plain (OpenSpec.upto factsetMatchesReferenceSpec)) factsetMatchesReferenceUptoCard
end Rows
end Go.Proofs.YtnndnjnpkjpkpaaGreatDoor
