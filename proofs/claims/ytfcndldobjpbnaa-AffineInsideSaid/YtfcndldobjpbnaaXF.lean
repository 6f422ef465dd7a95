/- What a picture seen leaves, its pixels in memory of their own. -/
import Derived.Test.YtfcndldobjpbnaaX
namespace Go.Proofs.Ytfcndldobjpbnaa
open Go.RowKit Go.Maps
set_option linter.unusedVariables false

def SeeFar (pw ph : Int) (k : Nat) (xs : List Int) (w : World) (e : Ending) (w' : World) : Prop :=
  ∃ aa cap, e = .returned (.tuple #[.agg #[.int .i64 pw, .int .i64 ph, .slice aa k cap], .int .i64 0]) ∧ Ints w' aa k xs ∧ Keeps none' w w' ∧ ∀ b off, aa = some ⟨b, off, none⟩ → w.heap.size ≤ b
theorem SeeFar.near {pw ph : Int} {k : Nat} {xs : List Int} {w : World} {e : Ending} {w' : World} (h : SeeFar pw ph k xs w e w') : SeeOk pw ph k xs w e w' := by
  obtain ⟨aa, cap, h1, h2, h3, -⟩ := h
  exact ⟨aa, cap, h1, h2, h3⟩
theorem Seen.far {w wr : World} {ty mt A B R G N : Nat} {W H : Int} {a : Option Addr} {n c : Nat} {b : Af.M} {pw ph : Int} {xs : List Int} {aa : Option Addr} {k cap : Nat} (h : Seen w ty mt A B R G N W H a n c b pw ph xs aa k cap wr)
    (hx : ∀ z ∈ xs, -9223372036854775808 ≤ z ∧ z ≤ 9223372036854775807) : ∀ b off, aa = some ⟨b, off, none⟩ → w.heap.size ≤ b := by
  intro b off e
  have h1 := (own_ints h.own hx).2 b off e
  have h2 := h.low.2.2.1
  omega
end Go.Proofs.Ytfcndldobjpbnaa
