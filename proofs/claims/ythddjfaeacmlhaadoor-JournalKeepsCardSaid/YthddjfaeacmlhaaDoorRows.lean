/-
  NARROWER THAN 'FOR EVERY INPUT', by the rows' own cells (each row's printed sentence says how): JournalScans: laid · JournalBack: laid · JournalKeeps: laid · JournalDown: laid · JournalFlips: laid.
  DERIVED. THE GIVEN ROWS OF THIS SEAT. 5 by the template 'for every input the law returns true; each argument reads behind the call as it read before'; 0 by the template 'total and deterministic' (their statements: YthddjfaeacmlhaaDoorTotals.lean).
  GIVEN WITH THE SEED: the statements are not yours to turn. If you find one false, say at which input.
  Laid BY PROGRAM, IN A SANDBOX (cutbox-rows.mjs): the forced cells as the released guide's own fill.sh prints them over the translation dd1efbc438422768… (all of the seat's roots in one cut). By AI agents, Wed Nov 11 2026. No macro, syntax, notation, axiom, sorry.
-/
import Derived.Test.YthddjfaeacmlhaaDoorChecked
import GoSem.Claim
import GoSem.ClaimJoined
import GoSem.ClaimMapViews
import Derived.JoinedTies
import Derived.KernelRfl
namespace Go.Proofs.YthddjfaeacmlhaaDoor
/- THE CELL 'sum', in the pinned program and in every row, IS THE sha256 OF THE DUMP (.gsa) THAT YthddjfaeacmlhaaDoorProg.lean LOADS. Nothing in Lean hashes anything: it is a label: what it is worth is what the hold of that sum in a sandbox is worth. -/
noncomputable def Tryd.pinned : Pinned := { name := "ythddjfaeacmlhaadoor", sum := "dd1efbc438422768b9c2e1928b447e921736ef5b68098a0902e28d55eaa14b89", checked := Tryd.checked }
namespace Rows
def none {H : Type} : Left H := { results := [], args := [] }

/- WHAT THE LISTED PACKAGE-LEVEL VARIABLES READ AS WHEN THE CALL BEGINS. Each datum BY PROGRAM (the guide's laid-datum.mjs) off the statement by which the dump's own 'gosem.cut.vars' lays the variable. In a bare row this is a premise. The card (YthddjfaeacmlhaaDoorCards.lean) ties it to the program's text. -/
def laid_scumble_sums_fours {H : Type} : DataW H := .agg [.lit (.int .u32 0), .lit (.int .u32 498536548), .lit (.int .u32 997073096), .lit (.int .u32 651767980), .lit (.int .u32 1994146192), .lit (.int .u32 1802195444), .lit (.int .u32 1303535960), .lit (.int .u32 1342533948), .lit (.int .u32 3988292384), .lit (.int .u32 4027552580), .lit (.int .u32 3604390888), .lit (.int .u32 3412177804), .lit (.int .u32 2607071920), .lit (.int .u32 2262029012), .lit (.int .u32 2685067896), .lit (.int .u32 3183342108)]

/-- 'scumblelaw16.JournalScans': WHATEVER THE INPUT: true; the input reads as it did. -/
def journalScansSpec : ChangeSpec := { name := "journalScans", fn := fun _ => fun
  | [d1, d2] => { results := [.lit (.bool true)], args := [d1, d2] }
  | _ => none }
def journalScansRow : OpenClaim := { program := "ythddjfaeacmlhaadoor", sum := "dd1efbc438422768b9c2e1928b447e921736ef5b68098a0902e28d55eaa14b89", func := "scumble/scumblelaw16.JournalScans", spec := "journalScans", named := ["scumble/sums.fours"], apart := false, laid := [("scumble/sums.fours", laid_scumble_sums_fours)] }
def JournalScansSaid : Prop := journalScansRow.holds Tryd.pinned (OpenSpec.ofChange journalScansSpec)

/-- ITS FALSE NEIGHBOUR: 'it returns false'. Refute it at one input. -/
def journalScansWrong : ChangeSpec := { name := "journalScans", fn := fun _ => fun
  | [d1, d2] => { results := [.lit (.bool false)], args := [d1, d2] }
  | _ => none }
def JournalScansWrongFalsely : Prop := journalScansRow.holds Tryd.pinned (OpenSpec.ofChange journalScansWrong)

/-- 'scumblelaw16.JournalBack': WHATEVER THE INPUT: true; the input reads as it did. -/
def journalBackSpec : ChangeSpec := { name := "journalBack", fn := fun _ => fun
  | [d1, d2] => { results := [.lit (.bool true)], args := [d1, d2] }
  | _ => none }
def journalBackRow : OpenClaim := { program := "ythddjfaeacmlhaadoor", sum := "dd1efbc438422768b9c2e1928b447e921736ef5b68098a0902e28d55eaa14b89", func := "scumble/scumblelaw16.JournalBack", spec := "journalBack", named := ["scumble/sums.fours"], apart := false, laid := [("scumble/sums.fours", laid_scumble_sums_fours)] }
def JournalBackSaid : Prop := journalBackRow.holds Tryd.pinned (OpenSpec.ofChange journalBackSpec)

/-- ITS FALSE NEIGHBOUR: 'it returns false'. Refute it at one input. -/
def journalBackWrong : ChangeSpec := { name := "journalBack", fn := fun _ => fun
  | [d1, d2] => { results := [.lit (.bool false)], args := [d1, d2] }
  | _ => none }
def JournalBackWrongFalsely : Prop := journalBackRow.holds Tryd.pinned (OpenSpec.ofChange journalBackWrong)

/-- 'scumblelaw16.JournalKeeps': WHATEVER THE INPUT: true; the input reads as it did. -/
def journalKeepsSpec : ChangeSpec := { name := "journalKeeps", fn := fun _ => fun
  | [d1, d2] => { results := [.lit (.bool true)], args := [d1, d2] }
  | _ => none }
def journalKeepsRow : OpenClaim := { program := "ythddjfaeacmlhaadoor", sum := "dd1efbc438422768b9c2e1928b447e921736ef5b68098a0902e28d55eaa14b89", func := "scumble/scumblelaw16.JournalKeeps", spec := "journalKeeps", named := ["scumble/sums.fours"], apart := false, laid := [("scumble/sums.fours", laid_scumble_sums_fours)] }
def JournalKeepsSaid : Prop := journalKeepsRow.holds Tryd.pinned (OpenSpec.ofChange journalKeepsSpec)

/-- ITS FALSE NEIGHBOUR: 'it returns false'. Refute it at one input. -/
def journalKeepsWrong : ChangeSpec := { name := "journalKeeps", fn := fun _ => fun
  | [d1, d2] => { results := [.lit (.bool false)], args := [d1, d2] }
  | _ => none }
def JournalKeepsWrongFalsely : Prop := journalKeepsRow.holds Tryd.pinned (OpenSpec.ofChange journalKeepsWrong)

/-- 'scumblelaw16.JournalDown': WHATEVER THE INPUT: true; the input reads as it did. -/
def journalDownSpec : ChangeSpec := { name := "journalDown", fn := fun _ => fun
  | [d1, d2, d3, d4] => { results := [.lit (.bool true)], args := [d1, d2, d3, d4] }
  | _ => none }
def journalDownRow : OpenClaim := { program := "ythddjfaeacmlhaadoor", sum := "dd1efbc438422768b9c2e1928b447e921736ef5b68098a0902e28d55eaa14b89", func := "scumble/scumblelaw16.JournalDown", spec := "journalDown", named := ["scumble/sums.fours"], apart := false, laid := [("scumble/sums.fours", laid_scumble_sums_fours)] }
def JournalDownSaid : Prop := journalDownRow.holds Tryd.pinned (OpenSpec.ofChange journalDownSpec)

/-- ITS FALSE NEIGHBOUR: 'it returns false'. Refute it at one input. -/
def journalDownWrong : ChangeSpec := { name := "journalDown", fn := fun _ => fun
  | [d1, d2, d3, d4] => { results := [.lit (.bool false)], args := [d1, d2, d3, d4] }
  | _ => none }
def JournalDownWrongFalsely : Prop := journalDownRow.holds Tryd.pinned (OpenSpec.ofChange journalDownWrong)

/-- 'scumblelaw16.JournalFlips': WHATEVER THE INPUT: true; the input reads as it did. -/
def journalFlipsSpec : ChangeSpec := { name := "journalFlips", fn := fun _ => fun
  | [d1, d2, d3, d4] => { results := [.lit (.bool true)], args := [d1, d2, d3, d4] }
  | _ => none }
def journalFlipsRow : OpenClaim := { program := "ythddjfaeacmlhaadoor", sum := "dd1efbc438422768b9c2e1928b447e921736ef5b68098a0902e28d55eaa14b89", func := "scumble/scumblelaw16.JournalFlips", spec := "journalFlips", named := ["scumble/sums.fours"], apart := false, laid := [("scumble/sums.fours", laid_scumble_sums_fours)] }
def JournalFlipsSaid : Prop := journalFlipsRow.holds Tryd.pinned (OpenSpec.ofChange journalFlipsSpec)

/-- ITS FALSE NEIGHBOUR: 'it returns false'. Refute it at one input. -/
def journalFlipsWrong : ChangeSpec := { name := "journalFlips", fn := fun _ => fun
  | [d1, d2, d3, d4] => { results := [.lit (.bool false)], args := [d1, d2, d3, d4] }
  | _ => none }
def JournalFlipsWrongFalsely : Prop := journalFlipsRow.holds Tryd.pinned (OpenSpec.ofChange journalFlipsWrong)

/- THE SECOND FORM. 'bulk': how many values and letters a reading holds, each counted each time it is reached (what is shared counts as often as it is met; a slice's spare places count too). A statement '..UptoSaid' is the law's where the arguments, and the package variables that the reading takes, are together of bulk at most 1048576: NARROWER than '..Said'. Prove '..Said' where nothing that the law and all that it calls make is longer than what came in: it says more and counts as full. Else prove '..UptoSaid'. A law counts once. -/
mutual
def uptoBulk {H : Type} : DataW H → Nat
  | .lit (.string bytes) => bytes.length + 1
  | .lit _ => 1
  | .nil => 1
  | .ptr d => uptoBulk d + 1
  | .slice elems spare => uptoBulkAll elems + uptoBulkAll spare + 1
  | .agg parts => uptoBulkAll parts + 1
  | .iface _ d => uptoBulk d + 1
  | .map entries => uptoBulkEntries entries + 1
  | .held _ => 1
def uptoBulkAll {H : Type} : List (DataW H) → Nat
  | [] => 0
  | d :: r => uptoBulk d + uptoBulkAll r
def uptoBulkEntries {H : Type} : List (Lit × DataW H) → Nat
  | [] => 0
  | x :: r => uptoBulkEntry x + uptoBulkEntries r
def uptoBulkEntry {H : Type} : Lit × DataW H → Nat
  | (.string bytes, d) => bytes.length + uptoBulk d + 1
  | (_, d) => uptoBulk d + 1
 end
def uptoSmall : (H : Type) → List (DataW H) → Bool := fun _ ds => decide (uptoBulkAll ds ≤ 1048576)
def OpenSpec.upto (s : _root_.Go.ChangeSpec) : _root_.Go.OpenSpec := { _root_.Go.OpenSpec.ofChange s with cond := some uptoSmall }

/-- 'scumblelaw16.JournalScans', WHERE WHAT IT READS IS OF BULK AT MOST 1048576: true; the input reads as it did. -/
def journalScansUptoRow : OpenClaim := { program := "ythddjfaeacmlhaadoor", sum := "dd1efbc438422768b9c2e1928b447e921736ef5b68098a0902e28d55eaa14b89", func := "scumble/scumblelaw16.JournalScans", spec := "journalScans", named := ["scumble/sums.fours"], apart := false, laid := [("scumble/sums.fours", laid_scumble_sums_fours)], narrowed := true }
def JournalScansUptoSaid : Prop := journalScansUptoRow.holds Tryd.pinned (OpenSpec.upto journalScansSpec)

/-- 'scumblelaw16.JournalBack', WHERE WHAT IT READS IS OF BULK AT MOST 1048576: true; the input reads as it did. -/
def journalBackUptoRow : OpenClaim := { program := "ythddjfaeacmlhaadoor", sum := "dd1efbc438422768b9c2e1928b447e921736ef5b68098a0902e28d55eaa14b89", func := "scumble/scumblelaw16.JournalBack", spec := "journalBack", named := ["scumble/sums.fours"], apart := false, laid := [("scumble/sums.fours", laid_scumble_sums_fours)], narrowed := true }
def JournalBackUptoSaid : Prop := journalBackUptoRow.holds Tryd.pinned (OpenSpec.upto journalBackSpec)

/-- 'scumblelaw16.JournalKeeps', WHERE WHAT IT READS IS OF BULK AT MOST 1048576: true; the input reads as it did. -/
def journalKeepsUptoRow : OpenClaim := { program := "ythddjfaeacmlhaadoor", sum := "dd1efbc438422768b9c2e1928b447e921736ef5b68098a0902e28d55eaa14b89", func := "scumble/scumblelaw16.JournalKeeps", spec := "journalKeeps", named := ["scumble/sums.fours"], apart := false, laid := [("scumble/sums.fours", laid_scumble_sums_fours)], narrowed := true }
def JournalKeepsUptoSaid : Prop := journalKeepsUptoRow.holds Tryd.pinned (OpenSpec.upto journalKeepsSpec)

/-- 'scumblelaw16.JournalDown', WHERE WHAT IT READS IS OF BULK AT MOST 1048576: true; the input reads as it did. -/
def journalDownUptoRow : OpenClaim := { program := "ythddjfaeacmlhaadoor", sum := "dd1efbc438422768b9c2e1928b447e921736ef5b68098a0902e28d55eaa14b89", func := "scumble/scumblelaw16.JournalDown", spec := "journalDown", named := ["scumble/sums.fours"], apart := false, laid := [("scumble/sums.fours", laid_scumble_sums_fours)], narrowed := true }
def JournalDownUptoSaid : Prop := journalDownUptoRow.holds Tryd.pinned (OpenSpec.upto journalDownSpec)

/-- 'scumblelaw16.JournalFlips', WHERE WHAT IT READS IS OF BULK AT MOST 1048576: true; the input reads as it did. -/
def journalFlipsUptoRow : OpenClaim := { program := "ythddjfaeacmlhaadoor", sum := "dd1efbc438422768b9c2e1928b447e921736ef5b68098a0902e28d55eaa14b89", func := "scumble/scumblelaw16.JournalFlips", spec := "journalFlips", named := ["scumble/sums.fours"], apart := false, laid := [("scumble/sums.fours", laid_scumble_sums_fours)], narrowed := true }
def JournalFlipsUptoSaid : Prop := journalFlipsUptoRow.holds Tryd.pinned (OpenSpec.upto journalFlipsSpec)

end Rows
end Go.Proofs.YthddjfaeacmlhaaDoor
