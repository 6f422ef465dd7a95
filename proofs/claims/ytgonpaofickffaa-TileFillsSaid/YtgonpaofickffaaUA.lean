/- A list of steps that came in, read cell by cell. -/
import Derived.Test.YtgonpaofickffaaTY
import Derived.Deep.Slices
import Derived.OpenShut
import Derived.ChangeOld
import Derived.ProofKit
namespace Go.Proofs.Ytgonpaofickffaa
open Go.ChangeShapes Go.WideShapes Go.ChangeAt Go.RowKit

theorem cells3 : Try.prog.cellsOf 3 = 1 := by kernel_rfl
theorem cells39 : Try.prog.cellsOf 39 = 7 := by kernel_rfl

theorem add_none (b off i j : Nat) : ((⟨b, off, none⟩ : Addr).add i).add j = ⟨b, off + i + j, none⟩ := by
  unfold Addr.add
  split <;> rename_i h1 <;> split <;> rename_i h2 <;> simp_all

set_option maxRecDepth 100000 in
theorem ops_each {H : Type} {enc : TypeId × Value → H} {w : World} {fuel : Nat} {a : Option Addr} {len cp : Nat} {x : DataW H × List MemPlace}
    (h : DataW.trod enc Try.prog w 0 (fun _ => true) true fuel 22 [.slice a len cp] = some x) : ∀ i, i < len → ∃ x b off, a = some ⟨b, off, none⟩ ∧ OneOp w b (off + i * 7) x := by
  rcases Deep.open_slice Try.underlying22 h with ⟨hcs, _⟩ | ⟨ad, l, c, m, n, D, Pl, hcs, _, hl, hm, hmm, _, hi⟩
  · simp only [List.cons.injEq, and_true, Value.slice.injEq] at hcs
    obtain ⟨rfl, rfl, rfl⟩ := hcs
    exact fun i hi => by omega
  · simp only [List.cons.injEq, and_true, Value.slice.injEq] at hcs
    obtain ⟨rfl, rfl, rfl⟩ := hcs
    intro i hlt
    obtain ⟨b, off, spot⟩ := ad
    have hsp : spot = none := by
      obtain ⟨cs, hc, _⟩ := hi 0 (by rw [hmm, if_pos rfl]; omega)
      rw [cells39, Nat.zero_mul] at hc
      obtain ⟨_, hcl, hat⟩ := World.cells?_some hc
      have h1 := World.cell?_spot ((hat 0 (by omega)).trans (List.getElem?_eq_getElem (by omega)))
      simpa [Addr.add] using h1
    subst hsp
    obtain ⟨cs, hc, ht⟩ := hi i (by rw [hmm, if_pos rfl]; omega)
    rw [cells39] at hc
    obtain ⟨ys, n', _, _, _, hyl, hf⟩ := DataW.trod_struct Try.underlying39 ht
    obtain ⟨_, hcl, hat⟩ := World.cells?_some hc
    match cs, hcl with
    | [v0, v1, v2, v3, v4, v5, v6], _ =>
      match ys, hyl with
      | [y0, y1, y2, y3, y4, y5, y6], _ =>
        have f0 : DataW.trod enc Try.prog w 0 (fun _ => true) true n' 3 (List.take (Try.prog.cellsOf 3) [v0, v1, v2, v3, v4, v5, v6]) = some y0 := hf 0 _ rfl
        rw [cells3] at f0
        have f1 : DataW.trod enc Try.prog w 0 (fun _ => true) true n' 3 (List.take (Try.prog.cellsOf 3) [v1, v2, v3, v4, v5, v6]) = some y1 := hf 1 _ rfl
        rw [cells3] at f1
        have f2 : DataW.trod enc Try.prog w 0 (fun _ => true) true n' 3 (List.take (Try.prog.cellsOf 3) [v2, v3, v4, v5, v6]) = some y2 := hf 2 _ rfl
        rw [cells3] at f2
        have f3 : DataW.trod enc Try.prog w 0 (fun _ => true) true n' 3 (List.take (Try.prog.cellsOf 3) [v3, v4, v5, v6]) = some y3 := hf 3 _ rfl
        rw [cells3] at f3
        have f4 : DataW.trod enc Try.prog w 0 (fun _ => true) true n' 3 (List.take (Try.prog.cellsOf 3) [v4, v5, v6]) = some y4 := hf 4 _ rfl
        rw [cells3] at f4
        have f5 : DataW.trod enc Try.prog w 0 (fun _ => true) true n' 3 (List.take (Try.prog.cellsOf 3) [v5, v6]) = some y5 := hf 5 _ rfl
        rw [cells3] at f5
        have f6 : DataW.trod enc Try.prog w 0 (fun _ => true) true n' 3 (List.take (Try.prog.cellsOf 3) [v6]) = some y6 := hf 6 _ rfl
        rw [cells3] at f6
        obtain ⟨z0, e0, _, r0⟩ := DataW.trod_int Try.underlying3 f0
        obtain ⟨z1, e1, _, r1⟩ := DataW.trod_int Try.underlying3 f1
        obtain ⟨z2, e2, _, r2⟩ := DataW.trod_int Try.underlying3 f2
        obtain ⟨z3, e3, _, r3⟩ := DataW.trod_int Try.underlying3 f3
        obtain ⟨z4, e4, _, r4⟩ := DataW.trod_int Try.underlying3 f4
        obtain ⟨z5, e5, _, r5⟩ := DataW.trod_int Try.underlying3 f5
        obtain ⟨z6, e6, _, r6⟩ := DataW.trod_int Try.underlying3 f6
        obtain rfl : v0 = _ := (List.cons.inj (show [v0] = [_] from e0)).1
        obtain rfl : v1 = _ := (List.cons.inj (show [v1] = [_] from e1)).1
        obtain rfl : v2 = _ := (List.cons.inj (show [v2] = [_] from e2)).1
        obtain rfl : v3 = _ := (List.cons.inj (show [v3] = [_] from e3)).1
        obtain rfl : v4 = _ := (List.cons.inj (show [v4] = [_] from e4)).1
        obtain rfl : v5 = _ := (List.cons.inj (show [v5] = [_] from e5)).1
        obtain rfl : v6 = _ := (List.cons.inj (show [v6] = [_] from e6)).1
        simp only [add_none] at hat
        exact ⟨⟨z0, z1, z2, z3, z4, z5, z6⟩, b, off, rfl, hat 0 (by omega), hat 1 (by omega), hat 2 (by omega), hat 3 (by omega), hat 4 (by omega), hat 5 (by omega), hat 6 (by omega), bounds_i64 r0, bounds_i64 r1, bounds_i64 r2, bounds_i64 r3, bounds_i64 r4, bounds_i64 r5, bounds_i64 r6⟩

theorem ops_of_trod {H : Type} {enc : TypeId × Value → H} {w : World} {fuel : Nat} {a : Option Addr} {len cp : Nat} {x : DataW H × List MemPlace}
    (h : DataW.trod enc Try.prog w 0 (fun _ => true) true fuel 22 [.slice a len cp] = some x) : ∃ xs, Ops w a len xs := by
  have h3 := ops_each h
  have h4 : ∀ i : Nat, ∃ x : Op, i < len → ∃ b off, a = some ⟨b, off, none⟩ ∧ OneOp w b (off + i * 7) x := by
    intro i
    by_cases hi : i < len
    · obtain ⟨x, hx⟩ := h3 i hi
      exact ⟨x, fun _ => hx⟩
    · exact ⟨⟨0, 0, 0, 0, 0, 0, 0⟩, fun h => absurd h hi⟩
  obtain ⟨f, hf⟩ := Classical.axiomOfChoice h4
  refine ⟨(List.range len).map f, by simp, fun i x hx => ?_⟩
  rw [List.getElem?_map] at hx
  by_cases hi : i < len
  · rw [List.getElem?_range hi] at hx
    simp only [Option.map_some, Option.some.injEq] at hx
    subst hx
    exact hf i hi
  · have : (List.range len)[i]? = none := by simp; omega
    rw [this] at hx
    cases hx
end Go.Proofs.Ytgonpaofickffaa
