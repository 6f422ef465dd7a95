/-
  DERIVED. GIVEN WITH THE SEED: THE CARDS: each row of YtfofghakjjblfaaDoorRows.lean that lists a variable, with what it lists TIED to the program's text (the seventh form; the later family's looks); each row that meets fmt, with fmt's text TOLD by the authors' own Lean function (tested against real Go, not proved from fmt's source: count such statements apart). THE CARD IS WHAT COUNTS. Prove the row's statement (the work); the ties are given (YtfofghakjjblfaaDoorTie.lean); close each card by the builder's one call (the guide's Derived/Test/ToyasCard.lean, 'card_holds'). Laid BY PROGRAM, IN A SANDBOX (cutbox-door.mjs). By AI agents, Wed Nov 11 2026. No macro, syntax, notation, axiom, sorry.
-/
import Derived.Test.YtfofghakjjblfaaDoorRows
import GoSem.ClaimSeven
namespace Go.Proofs.YtfofghakjjblfaaDoor
namespace Rows

/-- THE TIED CARD OF 'scumblelaw08.PixMuls'. -/
def pixMulsCard : Claim7 := { stood := { row := pixMulsRow, standIns := [], harness := (true, "61f838f9ec8591b5d4d589420cac76d29f210404b52ea5aa32050207baa25fbf"), looks := false }, kinds := [], alts := [], laidByText := true, laidKinds := [.wider], laidTests := true, laidLooks := .later }
def PixMulsCardSaid : Prop := Claim7.holds Tryd.pinned (.plain (OpenSpec.ofChange pixMulsSpec)) pixMulsCard

/-- THE TIED CARD OF 'scumblelaw08.PixWays'. -/
def pixWaysCard : Claim7 := { stood := { row := pixWaysRow, standIns := [], harness := (true, "61f838f9ec8591b5d4d589420cac76d29f210404b52ea5aa32050207baa25fbf"), looks := false }, kinds := [], alts := [], laidByText := true, laidKinds := [.wider], laidTests := true, laidLooks := .later }
def PixWaysCardSaid : Prop := Claim7.holds Tryd.pinned (.plain (OpenSpec.ofChange pixWaysSpec)) pixWaysCard

/-- THE TIED CARD OF 'scumblelaw08.PixBlends'. -/
def pixBlendsCard : Claim7 := { stood := { row := pixBlendsRow, standIns := [], harness := (true, "61f838f9ec8591b5d4d589420cac76d29f210404b52ea5aa32050207baa25fbf"), looks := false }, kinds := [], alts := [], laidByText := true, laidKinds := [.wider], laidTests := true, laidLooks := .later }
def PixBlendsCardSaid : Prop := Claim7.holds Tryd.pinned (.plain (OpenSpec.ofChange pixBlendsSpec)) pixBlendsCard

/-- THE TIED CARD OF 'scumblelaw08.PixTables'. -/
def pixTablesCard : Claim7 := { stood := { row := pixTablesRow, standIns := [], harness := (true, "61f838f9ec8591b5d4d589420cac76d29f210404b52ea5aa32050207baa25fbf"), looks := false }, kinds := [], alts := [], laidByText := true, laidKinds := [.wider], laidTests := true, laidLooks := .later }
def PixTablesCardSaid : Prop := Claim7.holds Tryd.pinned (.plain (OpenSpec.ofChange pixTablesSpec)) pixTablesCard

/-- THE TIED CARD OF 'scumblelaw08.PixMaps'. -/
def pixMapsCard : Claim7 := { stood := { row := pixMapsRow, standIns := [], harness := (true, "61f838f9ec8591b5d4d589420cac76d29f210404b52ea5aa32050207baa25fbf"), looks := false }, kinds := [], alts := [], laidByText := true, laidKinds := [.wider], laidTests := true, laidLooks := .later }
def PixMapsCardSaid : Prop := Claim7.holds Tryd.pinned (.plain (OpenSpec.ofChange pixMapsSpec)) pixMapsCard

/-- THE TIED CARD OF 'scumblelaw08.PixBack'. -/
def pixBackCard : Claim7 := { stood := { row := pixBackRow, standIns := [], harness := (true, "61f838f9ec8591b5d4d589420cac76d29f210404b52ea5aa32050207baa25fbf"), looks := false }, kinds := [], alts := [], laidByText := true, laidKinds := [.wider], laidTests := true, laidLooks := .later }
def PixBackCardSaid : Prop := Claim7.holds Tryd.pinned (.plain (OpenSpec.ofChange pixBackSpec)) pixBackCard

/-- THE TIED CARD OF 'scumblelaw08.PixOnto'. -/
def pixOntoCard : Claim7 := { stood := { row := pixOntoRow, standIns := [], harness := (true, "61f838f9ec8591b5d4d589420cac76d29f210404b52ea5aa32050207baa25fbf"), looks := false }, kinds := [], alts := [], laidByText := true, laidKinds := [.wider], laidTests := true, laidLooks := .later }
def PixOntoCardSaid : Prop := Claim7.holds Tryd.pinned (.plain (OpenSpec.ofChange pixOntoSpec)) pixOntoCard

/-- THE TIED CARD OF 'scumblelaw08.PixModes'. -/
def pixModesCard : Claim7 := { stood := { row := pixModesRow, standIns := [], harness := (true, "61f838f9ec8591b5d4d589420cac76d29f210404b52ea5aa32050207baa25fbf"), looks := false }, kinds := [], alts := [], laidByText := true, laidKinds := [.wider], laidTests := true, laidLooks := .later }
def PixModesCardSaid : Prop := Claim7.holds Tryd.pinned (.plain (OpenSpec.ofChange pixModesSpec)) pixModesCard

/-- THE TIED CARD OF 'scumblelaw08.PixInvert'. -/
def pixInvertCard : Claim7 := { stood := { row := pixInvertRow, standIns := [], harness := (true, "61f838f9ec8591b5d4d589420cac76d29f210404b52ea5aa32050207baa25fbf"), looks := false }, kinds := [], alts := [], laidByText := true, laidKinds := [.wider], laidTests := true, laidLooks := .later }
def PixInvertCardSaid : Prop := Claim7.holds Tryd.pinned (.plain (OpenSpec.ofChange pixInvertSpec)) pixInvertCard

/-- THE SECOND FORM's CARD OF 'scumblelaw08.PixMuls'. -/
def pixMulsUptoCard : Claim7 := { stood := { row := pixMulsUptoRow, standIns := [], harness := (true, "61f838f9ec8591b5d4d589420cac76d29f210404b52ea5aa32050207baa25fbf"), looks := false }, kinds := [], alts := [], laidByText := true, laidKinds := [.wider], laidTests := true, laidLooks := .later }
def PixMulsUptoCardSaid : Prop := Claim7.holds Tryd.pinned (.plain (OpenSpec.upto pixMulsSpec)) pixMulsUptoCard

/-- THE SECOND FORM's CARD OF 'scumblelaw08.PixWays'. -/
def pixWaysUptoCard : Claim7 := { stood := { row := pixWaysUptoRow, standIns := [], harness := (true, "61f838f9ec8591b5d4d589420cac76d29f210404b52ea5aa32050207baa25fbf"), looks := false }, kinds := [], alts := [], laidByText := true, laidKinds := [.wider], laidTests := true, laidLooks := .later }
def PixWaysUptoCardSaid : Prop := Claim7.holds Tryd.pinned (.plain (OpenSpec.upto pixWaysSpec)) pixWaysUptoCard

/-- THE SECOND FORM's CARD OF 'scumblelaw08.PixBlends'. -/
def pixBlendsUptoCard : Claim7 := { stood := { row := pixBlendsUptoRow, standIns := [], harness := (true, "61f838f9ec8591b5d4d589420cac76d29f210404b52ea5aa32050207baa25fbf"), looks := false }, kinds := [], alts := [], laidByText := true, laidKinds := [.wider], laidTests := true, laidLooks := .later }
def PixBlendsUptoCardSaid : Prop := Claim7.holds Tryd.pinned (.plain (OpenSpec.upto pixBlendsSpec)) pixBlendsUptoCard

/-- THE SECOND FORM's CARD OF 'scumblelaw08.PixTables'. -/
def pixTablesUptoCard : Claim7 := { stood := { row := pixTablesUptoRow, standIns := [], harness := (true, "61f838f9ec8591b5d4d589420cac76d29f210404b52ea5aa32050207baa25fbf"), looks := false }, kinds := [], alts := [], laidByText := true, laidKinds := [.wider], laidTests := true, laidLooks := .later }
def PixTablesUptoCardSaid : Prop := Claim7.holds Tryd.pinned (.plain (OpenSpec.upto pixTablesSpec)) pixTablesUptoCard

/-- THE SECOND FORM's CARD OF 'scumblelaw08.PixMaps'. -/
def pixMapsUptoCard : Claim7 := { stood := { row := pixMapsUptoRow, standIns := [], harness := (true, "61f838f9ec8591b5d4d589420cac76d29f210404b52ea5aa32050207baa25fbf"), looks := false }, kinds := [], alts := [], laidByText := true, laidKinds := [.wider], laidTests := true, laidLooks := .later }
def PixMapsUptoCardSaid : Prop := Claim7.holds Tryd.pinned (.plain (OpenSpec.upto pixMapsSpec)) pixMapsUptoCard

/-- THE SECOND FORM's CARD OF 'scumblelaw08.PixBack'. -/
def pixBackUptoCard : Claim7 := { stood := { row := pixBackUptoRow, standIns := [], harness := (true, "61f838f9ec8591b5d4d589420cac76d29f210404b52ea5aa32050207baa25fbf"), looks := false }, kinds := [], alts := [], laidByText := true, laidKinds := [.wider], laidTests := true, laidLooks := .later }
def PixBackUptoCardSaid : Prop := Claim7.holds Tryd.pinned (.plain (OpenSpec.upto pixBackSpec)) pixBackUptoCard

/-- THE SECOND FORM's CARD OF 'scumblelaw08.PixOnto'. -/
def pixOntoUptoCard : Claim7 := { stood := { row := pixOntoUptoRow, standIns := [], harness := (true, "61f838f9ec8591b5d4d589420cac76d29f210404b52ea5aa32050207baa25fbf"), looks := false }, kinds := [], alts := [], laidByText := true, laidKinds := [.wider], laidTests := true, laidLooks := .later }
def PixOntoUptoCardSaid : Prop := Claim7.holds Tryd.pinned (.plain (OpenSpec.upto pixOntoSpec)) pixOntoUptoCard

/-- THE SECOND FORM's CARD OF 'scumblelaw08.PixModes'. -/
def pixModesUptoCard : Claim7 := { stood := { row := pixModesUptoRow, standIns := [], harness := (true, "61f838f9ec8591b5d4d589420cac76d29f210404b52ea5aa32050207baa25fbf"), looks := false }, kinds := [], alts := [], laidByText := true, laidKinds := [.wider], laidTests := true, laidLooks := .later }
def PixModesUptoCardSaid : Prop := Claim7.holds Tryd.pinned (.plain (OpenSpec.upto pixModesSpec)) pixModesUptoCard

/-- THE SECOND FORM's CARD OF 'scumblelaw08.PixInvert'. -/
def pixInvertUptoCard : Claim7 := { stood := { row := pixInvertUptoRow, standIns := [], harness := (true, "61f838f9ec8591b5d4d589420cac76d29f210404b52ea5aa32050207baa25fbf"), looks := false }, kinds := [], alts := [], laidByText := true, laidKinds := [.wider], laidTests := true, laidLooks := .later }
def PixInvertUptoCardSaid : Prop := Claim7.holds Tryd.pinned (.plain (OpenSpec.upto pixInvertSpec)) pixInvertUptoCard
end Rows
end Go.Proofs.YtfofghakjjblfaaDoor
