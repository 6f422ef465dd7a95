/-
  NARROWER THAN 'FOR EVERY INPUT', by the rows' own cells (each row's printed sentence says how): FlateStored: laid · FlateCopies: laid.
  DERIVED. THE GIVEN ROWS OF THIS SEAT. 2 by the template 'for every input the law returns true; each argument reads behind the call as it read before'; 0 by the template 'total and deterministic' (their statements: YtpmoknnhgginjaaDoorTotals.lean).
  GIVEN WITH THE SEED: the statements are not yours to turn. If you find one false, say at which input.
  Laid BY PROGRAM, IN A SANDBOX (cutbox-rows.mjs): the forced cells as the released guide's own fill.sh prints them over the translation a7a3dad111aa22cc… (all of the seat's roots in one cut). By AI agents, Wed Nov 11 2026. No macro, syntax, notation, axiom, sorry.
-/
import Derived.Test.YtpmoknnhgginjaaDoorChecked
import GoSem.Claim
import GoSem.ClaimJoined
import GoSem.ClaimMapViews
import Derived.JoinedTies
import Derived.KernelRfl
namespace Go.Proofs.YtpmoknnhgginjaaDoor
/- THE CELL 'sum', in the pinned program and in every row, IS THE sha256 OF THE DUMP (.gsa) THAT YtpmoknnhgginjaaDoorProg.lean LOADS. Nothing in Lean hashes anything: it is a label: what it is worth is what the hold of that sum in a sandbox is worth. -/
noncomputable def Tryd.pinned : Pinned := { name := "ytpmoknnhgginjaadoor", sum := "a7a3dad111aa22cc035ed8d5fc194c54abb453bea872a994ed8f83dc0ad34272", checked := Tryd.checked }
namespace Rows
def none {H : Type} : Left H := { results := [], args := [] }

/- WHAT THE LISTED PACKAGE-LEVEL VARIABLES READ AS WHEN THE CALL BEGINS. Each datum BY PROGRAM (the guide's laid-datum.mjs) off the statement by which the dump's own 'gosem.cut.vars' lays the variable. In a bare row this is a premise. The card (YtpmoknnhgginjaaDoorCards.lean) ties it to the program's text. -/
def laid_scumble_flate_order {H : Type} : DataW H := .agg [.lit (.int .i64 16), .lit (.int .i64 17), .lit (.int .i64 18), .lit (.int .i64 0), .lit (.int .i64 8), .lit (.int .i64 7), .lit (.int .i64 9), .lit (.int .i64 6), .lit (.int .i64 10), .lit (.int .i64 5), .lit (.int .i64 11), .lit (.int .i64 4), .lit (.int .i64 12), .lit (.int .i64 3), .lit (.int .i64 13), .lit (.int .i64 2), .lit (.int .i64 14), .lit (.int .i64 1), .lit (.int .i64 15)]

/-- 'scumblelaw06.FlateStored': WHATEVER THE INPUT: true; the input reads as it did. -/
def flateStoredSpec : ChangeSpec := { name := "flateStored", fn := fun _ => fun
  | [d] => { results := [.lit (.bool true)], args := [d] }
  | _ => none }
def flateStoredRow : OpenClaim := { program := "ytpmoknnhgginjaadoor", sum := "a7a3dad111aa22cc035ed8d5fc194c54abb453bea872a994ed8f83dc0ad34272", func := "scumble/scumblelaw06.FlateStored", spec := "flateStored", unfollowed := true, recurses := true, named := ["scumble/flate.order"], apart := false, laid := [("scumble/flate.order", laid_scumble_flate_order)] }
def FlateStoredSaid : Prop := flateStoredRow.holds Tryd.pinned (OpenSpec.ofChange flateStoredSpec)

/-- ITS FALSE NEIGHBOUR: 'it returns false'. Refute it at one input. -/
def flateStoredWrong : ChangeSpec := { name := "flateStored", fn := fun _ => fun
  | [d] => { results := [.lit (.bool false)], args := [d] }
  | _ => none }
def FlateStoredWrongFalsely : Prop := flateStoredRow.holds Tryd.pinned (OpenSpec.ofChange flateStoredWrong)

/-- 'scumblelaw06.FlateCopies': WHATEVER THE INPUT: true; the input reads as it did. -/
def flateCopiesSpec : ChangeSpec := { name := "flateCopies", fn := fun _ => fun
  | [d1, d2, d3] => { results := [.lit (.bool true)], args := [d1, d2, d3] }
  | _ => none }
def flateCopiesRow : OpenClaim := { program := "ytpmoknnhgginjaadoor", sum := "a7a3dad111aa22cc035ed8d5fc194c54abb453bea872a994ed8f83dc0ad34272", func := "scumble/scumblelaw06.FlateCopies", spec := "flateCopies", unfollowed := true, recurses := true, named := ["scumble/flate.order"], apart := false, laid := [("scumble/flate.order", laid_scumble_flate_order)] }
def FlateCopiesSaid : Prop := flateCopiesRow.holds Tryd.pinned (OpenSpec.ofChange flateCopiesSpec)

/-- ITS FALSE NEIGHBOUR: 'it returns false'. Refute it at one input. -/
def flateCopiesWrong : ChangeSpec := { name := "flateCopies", fn := fun _ => fun
  | [d1, d2, d3] => { results := [.lit (.bool false)], args := [d1, d2, d3] }
  | _ => none }
def FlateCopiesWrongFalsely : Prop := flateCopiesRow.holds Tryd.pinned (OpenSpec.ofChange flateCopiesWrong)

/- THE SECOND FORM. 'bulk': how many values and letters a reading holds, each counted each time it is reached (what is shared counts as often as it is met; a slice's spare places count too). A statement '..UptoSaid' is the law's where the arguments, and the package variables that the reading takes, are together of bulk at most 1048576: NARROWER than '..Said'. Prove '..Said' where nothing that the law and all that it calls make is longer than what came in: it says more and counts as full. Else prove '..UptoSaid'. A law counts once. -/
mutual
def uptoBulk {H : Type} : DataW H → Nat
  | .lit (.string bytes) => bytes.length + 1
  | .lit _ => 1
  | .nil => 1
  | .ptr d => uptoBulk d + 1
  | .slice elems spare => uptoBulkAll elems + uptoBulkAll spare + 1
  | .agg parts => uptoBulkAll parts + 1
  | .iface _ d => uptoBulk d + 1
  | .map entries => uptoBulkEntries entries + 1
  | .held _ => 1
def uptoBulkAll {H : Type} : List (DataW H) → Nat
  | [] => 0
  | d :: r => uptoBulk d + uptoBulkAll r
def uptoBulkEntries {H : Type} : List (Lit × DataW H) → Nat
  | [] => 0
  | x :: r => uptoBulkEntry x + uptoBulkEntries r
def uptoBulkEntry {H : Type} : Lit × DataW H → Nat
  | (.string bytes, d) => bytes.length + uptoBulk d + 1
  | (_, d) => uptoBulk d + 1
 end
def uptoSmall : (H : Type) → List (DataW H) → Bool := fun _ ds => decide (uptoBulkAll ds ≤ 1048576)
def OpenSpec.upto (s : _root_.Go.ChangeSpec) : _root_.Go.OpenSpec := { _root_.Go.OpenSpec.ofChange s with cond := some uptoSmall }

/-- 'scumblelaw06.FlateStored', WHERE WHAT IT READS IS OF BULK AT MOST 1048576: true; the input reads as it did. -/
def flateStoredUptoRow : OpenClaim := { program := "ytpmoknnhgginjaadoor", sum := "a7a3dad111aa22cc035ed8d5fc194c54abb453bea872a994ed8f83dc0ad34272", func := "scumble/scumblelaw06.FlateStored", spec := "flateStored", unfollowed := true, recurses := true, named := ["scumble/flate.order"], apart := false, laid := [("scumble/flate.order", laid_scumble_flate_order)], narrowed := true }
def FlateStoredUptoSaid : Prop := flateStoredUptoRow.holds Tryd.pinned (OpenSpec.upto flateStoredSpec)

/-- 'scumblelaw06.FlateCopies', WHERE WHAT IT READS IS OF BULK AT MOST 1048576: true; the input reads as it did. -/
def flateCopiesUptoRow : OpenClaim := { program := "ytpmoknnhgginjaadoor", sum := "a7a3dad111aa22cc035ed8d5fc194c54abb453bea872a994ed8f83dc0ad34272", func := "scumble/scumblelaw06.FlateCopies", spec := "flateCopies", unfollowed := true, recurses := true, named := ["scumble/flate.order"], apart := false, laid := [("scumble/flate.order", laid_scumble_flate_order)], narrowed := true }
def FlateCopiesUptoSaid : Prop := flateCopiesUptoRow.holds Tryd.pinned (OpenSpec.upto flateCopiesSpec)

end Rows
end Go.Proofs.YtpmoknnhgginjaaDoor
