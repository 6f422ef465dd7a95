/- Slices of whole numbers that came in; TreePaints over them. -/
import Derived.Test.YtfcpbpfemmdklaaZR
import Derived.OpenShut
namespace Go.Proofs.Ytfcpbpfemmdklaa
open Go.RowKit Go.Lib
set_option linter.unusedSimpArgs false
set_option linter.unusedVariables false

/-- A slice as it comes in. -/
def IsRow (w : World) (a : Option Addr) (len cap : Nat) (zs : List Int) : Prop :=
  (a = none ∧ len = 0 ∧ cap = 0 ∧ zs = []) ∨
  ∃ x, a = some x ∧ len ≤ cap ∧ cap ≤ maxLen ∧ zs.length = cap ∧ (∀ i, i < zs.length → w.cell? (x.add i) = some (.int .i64 (zs.getD i 0))) ∧ x.spot = none ∧ x.block < w.heap.size
theorem cells_of_row {w : World} {a : Option Addr} {len cap : Nat} {zs : List Int} (h : IsRow w a len cap zs) : Cells 1 w ⟨a, len, cap⟩ (ints (zs.take len)) := by
  rcases h with ⟨rfl, rfl, rfl, rfl⟩ | ⟨x, rfl, hl, hm, hz, hcell, hx⟩
  · exact ⟨by simp [ints], Nat.le_refl _, fun _ => ⟨rfl, rfl⟩, ints_one _, fun x hx => (by cases hx)⟩
  · refine ⟨by simp [ints]; omega, hl, fun e => (by cases e), ints_one _, fun y hy => ?_⟩
    cases hy
    have hsp := hx
    refine ⟨hsp.1, hsp.2, fun j u hj => ?_⟩
    obtain ⟨b, off, sp⟩ := x
    obtain ⟨h1, h2⟩ := hsp
    simp only at h1
    subst h1
    unfold ints at hj
    rw [List.getElem?_map, List.getElem?_take] at hj
    split at hj
    · have hj2 : j < zs.length := by omega
      have hc := hcell j hj2
      rw [add_spot, List.getD_eq_getElem?_getD] at hc
      rw [List.getElem?_eq_getElem hj2] at hj hc
      simp at hj hc
      rw [← hj]
      exact hc
    · cases hj
/-- Where a slice that came in lies. -/
theorem okWide_lies {P : Program} {w : World} {base : Nat} {t e : TypeId} {a : Option Addr} {len cap : Nat} (ht : P.underlying t = some (.slice e)) (h : Value.okWide P w .any base t (.slice a len cap)) : ∀ x, a = some x → x.spot = none ∧ x.block < w.heap.size := by
  intro x hx
  subst hx
  simp only [Value.okWide, ht, Cell.okWide, Cell.ok] at h
  obtain ⟨-, -, -, h2, row, cells, h3, -⟩ := h
  refine ⟨h2, ?_⟩
  unfold World.shape? at h3
  by_cases hb : x.block < w.heap.size
  · exact hb
  · rw [Array.getElem?_eq_none (by omega)] at h3
    simp at h3
theorem paints_law (a : Option Addr) (n c : Nat) (xs : List Int) (a' : Option Addr) (n' c' : Nat) (ys : List Int) (x y ww hh : Int) (w : World) (h : IsRow w a n c xs) (g : IsRow w a' n' c' ys) : Calls Try.prog 5 #[.slice a n c, .slice a' n' c', .int .i64 x, .int .i64 y, .int .i64 ww, .int .i64 hh] w (Yes w) :=
  paints_walk a a' n c n' c' _ _ x y ww hh w (cells_of_row h) (cells_of_row g)
end Go.Proofs.Ytfcpbpfemmdklaa
