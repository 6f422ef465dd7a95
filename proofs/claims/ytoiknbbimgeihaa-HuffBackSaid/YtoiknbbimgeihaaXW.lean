/- Whole numbers that came in; the four laws that want no decoder. -/
import Derived.Test.YtoiknbbimgeihaaXL
import Derived.Test.YtoiknbbimgeihaaV
import Derived.Test.YtoiknbbimgeihaaW
namespace Go.Proofs.Ytoiknbbimgeihaa
open Go.RowKit
set_option linter.unusedVariables false

/-- A slice of integers that came in. -/
def IsRow (w : World) (a : Option Addr) (len cap : Nat) (zs : List Int) : Prop :=
  (a = none ∧ len = 0 ∧ cap = 0 ∧ zs = []) ∨
  ∃ x, a = some x ∧ len ≤ cap ∧ cap ≤ maxLen ∧ zs.length = cap ∧ (∀ i, i < zs.length → w.cell? (x.add i) = some (.int .i64 (zs.getD i 0))) ∧ ∀ n ∈ zs, (Lit.int .i64 n).wf = true
theorem bounds_i64 {n : Int} (h : (Lit.int .i64 n).wf = true) : -9223372036854775808 ≤ n ∧ n ≤ 9223372036854775807 := by
  simp [Lit.wf, IntKind.min, IntKind.max, IntKind.signed, IntKind.bits] at h
  omega
theorem head_spot {w : World} {x : Addr} {v : Value} (h : w.cell? (x.add 0) = some v) : ∃ b off, x = ⟨b, off, none⟩ := by
  obtain ⟨b, off, spot⟩ := x
  have h1 := World.cell?_spot (by simpa [Addr.add] using h)
  simp only at h1
  exact ⟨b, off, by rw [h1]⟩
theorem ints_of_row {w : World} {a : Option Addr} {len cap : Nat} {zs : List Int} (h : IsRow w a len cap zs) : Ints w a len (zs.take len) := by
  rcases h with ⟨rfl, rfl, rfl, rfl⟩ | ⟨x, rfl, hl, hm, hz, hcell, hwz⟩
  · exact ⟨rfl, fun z hz => by simp at hz, fun hp => absurd hp (by omega)⟩
  · refine ⟨by rw [List.length_take]; omega, fun z hz2 => bounds_i64 (hwz z (List.mem_of_mem_take hz2)), fun hp => ?_⟩
    obtain ⟨b, off, rfl⟩ := head_spot (hcell 0 (by omega))
    refine ⟨b, off, rfl, fun j y hj => ?_⟩
    rw [List.getElem?_take] at hj
    split at hj
    · have hj2 : j < zs.length := by omega
      have hc := hcell j hj2
      rw [add_spot, List.getD_eq_getElem?_getD, hj] at hc
      exact hc
    · cases hj

theorem anchor_any : AnchorSays := anchor_says codes_says lengths_says
theorem least_law (w : World) (a : Option Addr) (n c : Nat) (zs : List Int) (most : Int) (hz : Ints w a n zs) (hm : -9223372036854775808 ≤ most ∧ most ≤ 9223372036854775807) : Calls Try.prog 3 #[.slice a n c, .int .i64 most] w (Yes w) :=
  huffLeast_any anchor_any lengths_says w a n c zs most hm hz
theorem order_law (w : World) (a : Option Addr) (n c : Nat) (zs : List Int) (most : Int) (hz : Ints w a n zs) (hm : -9223372036854775808 ≤ most ∧ most ≤ 9223372036854775807) : Calls Try.prog 4 #[.slice a n c, .int .i64 most] w (Yes w) :=
  huffOrder_any anchor_any lengths_says weight_says w a n c zs most hm hz
theorem codes_law (w : World) (a : Option Addr) (n c : Nat) (zs : List Int) (hz : Ints w a n zs) : Calls Try.prog 5 #[.slice a n c] w (Yes w) :=
  huffCodes_any anchor_any weight_says codes_says w a n c zs hz
theorem apart_law (w : World) (a : Option Addr) (n c : Nat) (zs : List Int) (hz : Ints w a n zs) : Calls Try.prog 8 #[.slice a n c] w (Yes w) :=
  huffApart_any anchor_any codes_says w a n c zs hz
end Go.Proofs.Ytoiknbbimgeihaa
