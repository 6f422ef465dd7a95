/-
  DERIVED. GIVEN WITH THE SEED: THE CARDS: each row of YtfidconibclehaaDoorRows.lean that lists a variable, with what it lists TIED to the program's text (the seventh form; the later family's looks); each row that meets fmt, with fmt's text TOLD by the authors' own Lean function (tested against real Go, not proved from fmt's source: count such statements apart). THE CARD IS WHAT COUNTS. Prove the row's statement (the work); the ties are given (YtfidconibclehaaDoorTie.lean); close each card by the builder's one call (the guide's Derived/Test/ToyasCard.lean, 'card_holds'). Laid BY PROGRAM, IN A SANDBOX (cutbox-door.mjs). By AI agents, Wed Nov 11 2026. No macro, syntax, notation, axiom, sorry.
-/
import Derived.Test.YtfidconibclehaaDoorRows
import GoSem.ClaimSeven
namespace Go.Proofs.YtfidconibclehaaDoor
namespace Rows

/-- THE TIED CARD OF 'scumblelaw03.SumsOf'. -/
def sumsOfCard : Claim7 := { stood := { row := sumsOfRow, standIns := [], harness := (true, "dfaa5e4ee82c9858e82f61f8db10abd79a93f27cb37322e624afae2b8780f852"), looks := false }, kinds := [], alts := [], laidByText := true, laidKinds := [.data], laidTests := true, laidLooks := .later }
def SumsOfCardSaid : Prop := Claim7.holds Tryd.pinned (.plain (OpenSpec.ofChange sumsOfSpec)) sumsOfCard

/-- THE TIED CARD OF 'scumblelaw03.SumsMore'. -/
def sumsMoreCard : Claim7 := { stood := { row := sumsMoreRow, standIns := [], harness := (true, "dfaa5e4ee82c9858e82f61f8db10abd79a93f27cb37322e624afae2b8780f852"), looks := false }, kinds := [], alts := [], laidByText := true, laidKinds := [.data], laidTests := true, laidLooks := .later }
def SumsMoreCardSaid : Prop := Claim7.holds Tryd.pinned (.plain (OpenSpec.ofChange sumsMoreSpec)) sumsMoreCard

/-- THE TIED CARD OF 'scumblelaw03.SumsJoin'. -/
def sumsJoinCard : Claim7 := { stood := { row := sumsJoinRow, standIns := [], harness := (true, "dfaa5e4ee82c9858e82f61f8db10abd79a93f27cb37322e624afae2b8780f852"), looks := false }, kinds := [], alts := [], laidByText := true, laidKinds := [.data], laidTests := true, laidLooks := .later }
def SumsJoinCardSaid : Prop := Claim7.holds Tryd.pinned (.plain (OpenSpec.ofChange sumsJoinSpec)) sumsJoinCard

/-- THE TIED CARD OF 'scumblelaw03.SumsFlip'. -/
def sumsFlipCard : Claim7 := { stood := { row := sumsFlipRow, standIns := [], harness := (true, "dfaa5e4ee82c9858e82f61f8db10abd79a93f27cb37322e624afae2b8780f852"), looks := false }, kinds := [], alts := [], laidByText := true, laidKinds := [.data], laidTests := true, laidLooks := .later }
def SumsFlipCardSaid : Prop := Claim7.holds Tryd.pinned (.plain (OpenSpec.ofChange sumsFlipSpec)) sumsFlipCard

/-- THE TIED CARD OF 'scumblelaw03.SumsLinear'. -/
def sumsLinearCard : Claim7 := { stood := { row := sumsLinearRow, standIns := [], harness := (true, "dfaa5e4ee82c9858e82f61f8db10abd79a93f27cb37322e624afae2b8780f852"), looks := false }, kinds := [], alts := [], laidByText := true, laidKinds := [.data], laidTests := true, laidLooks := .later }
def SumsLinearCardSaid : Prop := Claim7.holds Tryd.pinned (.plain (OpenSpec.ofChange sumsLinearSpec)) sumsLinearCard

/-- THE TIED CARD OF 'scumblelaw03.SumsSwap'. -/
def sumsSwapCard : Claim7 := { stood := { row := sumsSwapRow, standIns := [], harness := (true, "dfaa5e4ee82c9858e82f61f8db10abd79a93f27cb37322e624afae2b8780f852"), looks := false }, kinds := [], alts := [], laidByText := true, laidKinds := [.data], laidTests := true, laidLooks := .later }
def SumsSwapCardSaid : Prop := Claim7.holds Tryd.pinned (.plain (OpenSpec.ofChange sumsSwapSpec)) sumsSwapCard

/-- THE SECOND FORM's CARD OF 'scumblelaw03.SumsOf'. -/
def sumsOfUptoCard : Claim7 := { stood := { row := sumsOfUptoRow, standIns := [], harness := (true, "dfaa5e4ee82c9858e82f61f8db10abd79a93f27cb37322e624afae2b8780f852"), looks := false }, kinds := [], alts := [], laidByText := true, laidKinds := [.data], laidTests := true, laidLooks := .later }
def SumsOfUptoCardSaid : Prop := Claim7.holds Tryd.pinned (.plain (OpenSpec.upto sumsOfSpec)) sumsOfUptoCard

/-- THE SECOND FORM's CARD OF 'scumblelaw03.SumsMore'. -/
def sumsMoreUptoCard : Claim7 := { stood := { row := sumsMoreUptoRow, standIns := [], harness := (true, "dfaa5e4ee82c9858e82f61f8db10abd79a93f27cb37322e624afae2b8780f852"), looks := false }, kinds := [], alts := [], laidByText := true, laidKinds := [.data], laidTests := true, laidLooks := .later }
def SumsMoreUptoCardSaid : Prop := Claim7.holds Tryd.pinned (.plain (OpenSpec.upto sumsMoreSpec)) sumsMoreUptoCard

/-- THE SECOND FORM's CARD OF 'scumblelaw03.SumsJoin'. -/
def sumsJoinUptoCard : Claim7 := { stood := { row := sumsJoinUptoRow, standIns := [], harness := (true, "dfaa5e4ee82c9858e82f61f8db10abd79a93f27cb37322e624afae2b8780f852"), looks := false }, kinds := [], alts := [], laidByText := true, laidKinds := [.data], laidTests := true, laidLooks := .later }
def SumsJoinUptoCardSaid : Prop := Claim7.holds Tryd.pinned (.plain (OpenSpec.upto sumsJoinSpec)) sumsJoinUptoCard

/-- THE SECOND FORM's CARD OF 'scumblelaw03.SumsFlip'. -/
def sumsFlipUptoCard : Claim7 := { stood := { row := sumsFlipUptoRow, standIns := [], harness := (true, "dfaa5e4ee82c9858e82f61f8db10abd79a93f27cb37322e624afae2b8780f852"), looks := false }, kinds := [], alts := [], laidByText := true, laidKinds := [.data], laidTests := true, laidLooks := .later }
def SumsFlipUptoCardSaid : Prop := Claim7.holds Tryd.pinned (.plain (OpenSpec.upto sumsFlipSpec)) sumsFlipUptoCard

/-- THE SECOND FORM's CARD OF 'scumblelaw03.SumsLinear'. -/
def sumsLinearUptoCard : Claim7 := { stood := { row := sumsLinearUptoRow, standIns := [], harness := (true, "dfaa5e4ee82c9858e82f61f8db10abd79a93f27cb37322e624afae2b8780f852"), looks := false }, kinds := [], alts := [], laidByText := true, laidKinds := [.data], laidTests := true, laidLooks := .later }
def SumsLinearUptoCardSaid : Prop := Claim7.holds Tryd.pinned (.plain (OpenSpec.upto sumsLinearSpec)) sumsLinearUptoCard

/-- THE SECOND FORM's CARD OF 'scumblelaw03.SumsSwap'. -/
def sumsSwapUptoCard : Claim7 := { stood := { row := sumsSwapUptoRow, standIns := [], harness := (true, "dfaa5e4ee82c9858e82f61f8db10abd79a93f27cb37322e624afae2b8780f852"), looks := false }, kinds := [], alts := [], laidByText := true, laidKinds := [.data], laidTests := true, laidLooks := .later }
def SumsSwapUptoCardSaid : Prop := Claim7.holds Tryd.pinned (.plain (OpenSpec.upto sumsSwapSpec)) sumsSwapUptoCard
end Rows
end Go.Proofs.YtfidconibclehaaDoor
