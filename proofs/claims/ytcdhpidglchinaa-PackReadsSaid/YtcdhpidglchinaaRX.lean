/- A whole edit of the document's stored, as one step. -/
import Derived.Test.YtcdhpidglchinaaRE
import Derived.Test.YtcdhpidglchinaaLD
namespace Go.Proofs.Ytcdhpidglchinaa
open Go.RowKit Go.Lib Pk
set_option linter.unusedSimpArgs false
set_option linter.unusedVariables false

def aggCells : Value → Array Value
  | .agg cs => cs
  | _ => #[]
theorem aggCells_agg (cs : Array Value) : aggCells (.agg cs) = cs := rfl
def One19 (cs : Array Value) : Prop := cs.size = 19 ∧ cs.all (·.oneCell') = true
theorem stxR {ev : Operand → Value} {x y : Operand} {w : World} {d : Option Tmp} {t : TypeId} {p : String} {af} {g} (h : ev x = .pointer (some ⟨ptrBlock (ev x), 0, none⟩)) (h2 : ev y = .agg (aggCells (ev y))) (r : RowE w 39 (ptrBlock (ev x))) (r3 : One19 (aggCells (ev y))) :
    (execOp ev { dst := d, op := Op.store 39 x y, type := t, pos := p, after := af, guard := g }).run Try.prog w = .ok .skip (w.setRow (ptrBlock (ev x)) (aggCells (ev y))) := by
  obtain ⟨cs, h3, h4⟩ := r
  obtain ⟨r2, r3⟩ := r3
  unfold execOp
  generalize ptrBlock (ev x) = b at *
  generalize aggCells (ev y) = cy at *
  simp only [h, h2, Instr.storeAt, Instr.sureAddr, Sem.run_bind, Sem.run_pure, Result.andThen_ok, run_storeVar_row w b 39 39 cs cy h3 (by rw [r2]; exact sizeREd) (h4.trans r2.symm) r3]
theorem getPt_two (s : St) : getPt s = (((num s).1, (num (num s).2).1), (num (num s).2).2) := by simp only [getPt, getP]
end Go.Proofs.Ytcdhpidglchinaa
