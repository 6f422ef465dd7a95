/- A whole edit loaded, as one step (where the load stands under a guard). -/
import Derived.Test.YtcdhpidglchinaaF
namespace Go.Proofs.Ytcdhpidglchinaa
open Go.RowKit Go.Lib Pk
set_option linter.unusedSimpArgs false
set_option linter.unusedVariables false

/-- The cells of a block. -/
def rowAt (w : World) (b : Nat) : Array Value := match w.heap[b]? with
  | some (.cells c _ _) => c
  | _ => #[]
def RowE (w : World) (T : TypeId) (b : Nat) : Prop := ∃ cs, w.heap[b]? = some (.cells cs T (0, 0)) ∧ cs.size = 19
/-- Where a pointer points. -/
def ptrBlock : Value → Nat
  | .pointer (some a) => a.block
  | _ => 0
theorem ptrBlock_some (b i : Nat) : ptrBlock (.pointer (some ⟨b, i, none⟩)) = b := rfl
theorem ldxE {ev : Operand → Value} {x : Operand} {w : World} {d : Option Tmp} {t : TypeId} {p : String} {af} {g} (h : ev x = .pointer (some ⟨ptrBlock (ev x), 0, none⟩)) (r : RowE w 27 (ptrBlock (ev x))) :
    (execOp ev { dst := d, op := Op.load 27 x, type := t, pos := p, after := af, guard := g }).run Try.prog w = .ok (.value (.agg (rowAt w (ptrBlock (ev x))))) w := by
  obtain ⟨cs, h1, h2⟩ := r
  unfold execOp
  generalize ptrBlock (ev x) = b at *
  simp only [h, Instr.loadAt, Instr.sureAddr, Sem.run_bind, Sem.run_pure, Result.andThen_ok, run_loadVar_row w b 27 27 cs (0, 0) _ h1 Try.underlying27 rfl (by rw [h2]; exact sizeEd)]
  unfold rowAt
  rw [h1]
theorem sizeREd : (Try.prog.info? 39).map (·.size) = some 19 := by kernel_rfl
theorem ldxR {ev : Operand → Value} {x : Operand} {w : World} {d : Option Tmp} {t : TypeId} {p : String} {af} {g} (h : ev x = .pointer (some ⟨ptrBlock (ev x), 0, none⟩)) (r : RowE w 39 (ptrBlock (ev x))) :
    (execOp ev { dst := d, op := Op.load 39 x, type := t, pos := p, after := af, guard := g }).run Try.prog w = .ok (.value (.agg (rowAt w (ptrBlock (ev x))))) w := by
  obtain ⟨cs, h1, h2⟩ := r
  unfold execOp
  generalize ptrBlock (ev x) = b at *
  simp only [h, Instr.loadAt, Instr.sureAddr, Sem.run_bind, Sem.run_pure, Result.andThen_ok, run_loadVar_row w b 39 39 cs (0, 0) _ h1 Try.underlying39 rfl (by rw [h2]; exact sizeREd)]
  unfold rowAt
  rw [h1]
theorem Eb.row {w : World} {T : TypeId} {E : Nat} {e : PEd} {p s q : Hd} (h : Eb w T E e p s q) : RowE w T E ∧ rowAt w E = (edCells e p s q).toArray := by
  refine ⟨⟨_, h, rfl⟩, ?_⟩
  unfold rowAt
  rw [show w.heap[E]? = _ from h]
end Go.Proofs.Ytcdhpidglchinaa
