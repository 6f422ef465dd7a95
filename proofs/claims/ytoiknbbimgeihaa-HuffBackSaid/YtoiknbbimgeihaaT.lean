/- HuffLeast where lengths are there. -/
import Derived.Test.YtoiknbbimgeihaaS
namespace Go.Proofs.Ytoiknbbimgeihaa
open Go.RowKit
set_option linter.unusedVariables false

theorem one_of {zs : List Int} (h : (sortD [] zs).length = 1) : ∃ z, sortD [] zs = [z] := by
  match e : sortD [] zs with
  | [] => rw [e] at h; simp at h
  | [z] => exact ⟨z, rfl⟩
  | _ :: _ :: _ => rw [e] at h; simp at h

/-- The document's Least at the sorted counts is what the law reckons. -/
theorem least_cost {zs ls : List Int} {r : Nat} (hb : Best zs ls (r + 1)) (hz : ∀ z ∈ zs, 0 ≤ z ∧ z ≤ 1099511627776) (hr : r ≤ 15) (hp : (posI zs).length ≤ 40) (w : World) (a : Option Addr) (c : Nat) (h : Ints w a (sortD [] zs).length (sortD [] zs)) :
    Calls Try.prog 13 #[.slice a (sortD [] zs).length c, .int .i64 ((r + 1 : Nat) : Int)] w fun e w' => e = .returned (.int .i64 (cost zs ls zs.length)) ∧ Below w.heap.size w w' := by
  have h0 : ∀ z ∈ zs, 0 ≤ z := fun z hz' => (hz z hz').1
  have hl : (sortD [] zs).length = (posI zs).length := by
    rw [← ordered_length, ← ordered_ints]
    simp [ints]
  by_cases e0 : (posI zs).length = 0
  · rw [cost_none hb h0 e0, hl, e0]
    exact least_none_any w c a _
  · by_cases e1 : (posI zs).length = 1
    · obtain ⟨z, hzz⟩ := one_of (hl.trans e1)
      have ho : ((ordered zs).sum : Int) = z := by
        have h1 := ordered_ints zs
        rw [hzz] at h1
        match e : ordered zs with
        | [] => rw [e] at h1; simp [ints] at h1
        | [q] => rw [e] at h1; simp [ints] at h1; simp [h1]
        | _ :: _ :: _ => rw [e] at h1; simp [ints] at h1
      rw [cost_one hb h0 e1 (by omega), ho]
      rw [hzz] at h ⊢
      exact least_one_any w c a z h _
    · rw [cost_least hb h0]
      have hsum : (ordered zs).sum ≤ 1099511627776 * (ordered zs).length := by
        refine sum_le_of _ _ (fun x hx => ?_)
        have hx2 := (ordered_perm zs).mem_iff.2 hx
        rw [ws_filter] at hx2
        obtain ⟨y, hy, rfl⟩ := List.mem_map.1 hx2
        have := hz y (List.mem_filter.1 hy).1
        omega
      rw [ordered_length] at hsum
      rw [hl] at h ⊢
      rw [← ordered_ints] at h
      have hm := Nat.mul_le_mul_left 1099511627776 hp
      exact docLeast_any w a _ c (ordered zs) h (by omega) (by omega) (by omega) r hr
end Go.Proofs.Ytoiknbbimgeihaa
