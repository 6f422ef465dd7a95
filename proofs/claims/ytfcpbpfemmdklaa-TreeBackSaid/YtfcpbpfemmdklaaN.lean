/- A layer taken out of a row (50). (printed by genTN.py) -/
import Derived.Test.YtfcpbpfemmdklaaM
import Derived.Test.YtfcpbpfemmdklaaI
import Derived.Deep.Cut
namespace Go.Proofs.Ytfcpbpfemmdklaa
open Go.RowKit Go.Lib
set_option linter.unusedSimpArgs false
set_option linter.unusedVariables false

/-- What memory holds behind a taking: the row without the layer, the header set. -/
structure Took (B : Nat) (w : World) (kb ko g n c : Nat) (vs : List Value) (w' : World) : Prop where
  keeps : Keeps (fun q => q = g ∨ q = kb) w w'
  row : OwnR B w' 48 19 ⟨some ⟨g, 0, none⟩, n, c⟩ vs
  kb : w'.heap[kb]? = (w.setCell ⟨kb, ko, none⟩ (.slice (some ⟨g, 0, none⟩) n c)).heap[kb]?
theorem Took.later {B : Nat} {w w1 w2 : World} {kb ko g n c : Nat} {vs : List Value} (t : Took B w kb ko g n c vs w1) (hg : g < w.heap.size) (hk : kb < w.heap.size) (k : Keeps (fun q => w.heap.size ≤ q) w1 w2) : Took B w kb ko g n c vs w2 :=
  ⟨⟨k.os.trans t.keeps.os, k.tape.trans t.keeps.tape, k.output.trans t.keeps.output, Nat.le_trans t.keeps.size k.size, fun q hq hn => (k.block q (Nat.lt_of_lt_of_le hq t.keeps.size) (by omega)).trans (t.keeps.block q hq hn)⟩,
   t.row.keep k (fun x hx e => by
     have e1 : x = ⟨g, 0, none⟩ := by simpa using hx.symm
     subst e1
     have e2 : w.heap.size ≤ g := e
     omega),
   (k.block kb (Nat.lt_of_lt_of_le hk t.keeps.size) (by omega)).trans t.kb⟩
/-- Out of what delete tells, and the store of the header. -/
theorem Took.mk1 {B : Nat} {w w0 w1 : World} {kb ko g n c : Nat} {vs : List Value} (k0 : Keeps none' w w0) (row : OwnR B w1 48 19 ⟨some ⟨g, 0, none⟩, n, c⟩ vs) (k : Keeps (fun q => q = g) w0 w1) (hne : kb ≠ g) (hk : kb < w.heap.size) : Took B w kb ko g n c vs (w1.setCell ⟨kb, ko, none⟩ (.slice (some ⟨g, 0, none⟩) n c)) := by
  have ks := keeps_at w1 kb ko (.slice (some ⟨g, 0, none⟩) n c)
  have e1 : w1.heap[kb]? = w.heap[kb]? := (k.block kb (Nat.lt_of_lt_of_le hk k0.size) hne).trans (k0.later kb hk)
  refine ⟨⟨ks.os.trans (k.os.trans k0.os), ks.tape.trans (k.tape.trans k0.tape), ks.output.trans (k.output.trans k0.output), Nat.le_trans k0.size (Nat.le_trans k.size ks.size), fun q hq hn => ?_⟩, ?_, ?_⟩
  · exact ((ks.block q (Nat.lt_of_lt_of_le hq (Nat.le_trans k0.size k.size)) (fun e => hn (.inr e))).trans (k.block q (Nat.lt_of_lt_of_le hq k0.size) (fun e => hn (.inl e)))).trans (k0.later q hq)
  · refine row.keep ks (fun x hx e => ?_)
    have e2 : x = ⟨g, 0, none⟩ := by simpa using hx.symm
    subst e2
    exact hne (Eq.symm e)
  · simp only [World.setCell, Array.getElem?_modify, e1]
end Go.Proofs.Ytfcpbpfemmdklaa
