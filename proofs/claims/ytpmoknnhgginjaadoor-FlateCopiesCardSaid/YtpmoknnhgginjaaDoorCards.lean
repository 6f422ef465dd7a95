/-
  DERIVED. GIVEN WITH THE SEED: THE CARDS: each row of YtpmoknnhgginjaaDoorRows.lean that lists a variable, with what it lists TIED to the program's text (the seventh form; the later family's looks); each row that meets fmt, with fmt's text TOLD by the authors' own Lean function (tested against real Go, not proved from fmt's source: count such statements apart). THE CARD IS WHAT COUNTS. Prove the row's statement (the work); the ties are given (YtpmoknnhgginjaaDoorTie.lean); close each card by the builder's one call (the guide's Derived/Test/ToyasCard.lean, 'card_holds'). Laid BY PROGRAM, IN A SANDBOX (cutbox-door.mjs). By AI agents, Wed Nov 11 2026. No macro, syntax, notation, axiom, sorry.
-/
import Derived.Test.YtpmoknnhgginjaaDoorRows
import GoSem.ClaimSeven
namespace Go.Proofs.YtpmoknnhgginjaaDoor
namespace Rows

/-- THE TIED CARD OF 'scumblelaw06.FlateStored'. -/
def flateStoredCard : Claim7 := { stood := { row := flateStoredRow, standIns := [], harness := (true, "48514bfeba09a041d6beadea905448160cf0db97ce1b3749b1ab3d0364abc3fa"), looks := false }, kinds := [], alts := [], laidByText := true, laidKinds := [.data], laidTests := true, laidLooks := .later }
def FlateStoredCardSaid : Prop := Claim7.holds Tryd.pinned (.plain (OpenSpec.ofChange flateStoredSpec)) flateStoredCard

/-- THE TIED CARD OF 'scumblelaw06.FlateCopies'. -/
def flateCopiesCard : Claim7 := { stood := { row := flateCopiesRow, standIns := [], harness := (true, "48514bfeba09a041d6beadea905448160cf0db97ce1b3749b1ab3d0364abc3fa"), looks := false }, kinds := [], alts := [], laidByText := true, laidKinds := [.data], laidTests := true, laidLooks := .later }
def FlateCopiesCardSaid : Prop := Claim7.holds Tryd.pinned (.plain (OpenSpec.ofChange flateCopiesSpec)) flateCopiesCard

/-- THE SECOND FORM's CARD OF 'scumblelaw06.FlateStored'. -/
def flateStoredUptoCard : Claim7 := { stood := { row := flateStoredUptoRow, standIns := [], harness := (true, "48514bfeba09a041d6beadea905448160cf0db97ce1b3749b1ab3d0364abc3fa"), looks := false }, kinds := [], alts := [], laidByText := true, laidKinds := [.data], laidTests := true, laidLooks := .later }
def FlateStoredUptoCardSaid : Prop := Claim7.holds Tryd.pinned (.plain (OpenSpec.upto flateStoredSpec)) flateStoredUptoCard

/-- THE SECOND FORM's CARD OF 'scumblelaw06.FlateCopies'. -/
def flateCopiesUptoCard : Claim7 := { stood := { row := flateCopiesUptoRow, standIns := [], harness := (true, "48514bfeba09a041d6beadea905448160cf0db97ce1b3749b1ab3d0364abc3fa"), looks := false }, kinds := [], alts := [], laidByText := true, laidKinds := [.data], laidTests := true, laidLooks := .later }
def FlateCopiesUptoCardSaid : Prop := Claim7.holds Tryd.pinned (.plain (OpenSpec.upto flateCopiesSpec)) flateCopiesUptoCard
end Rows
end Go.Proofs.YtpmoknnhgginjaaDoor
