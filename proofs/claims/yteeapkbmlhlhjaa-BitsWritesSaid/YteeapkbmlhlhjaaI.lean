/- A list of numbers that came in, read cell by cell. -/
import Derived.Test.YteeapkbmlhlhjaaH
import Derived.Deep.Slices
import Derived.OpenShut
import Derived.ChangeOld
import Derived.ProofKit
namespace Go.Proofs.Yteeapkbmlhlhjaa
open Go.ChangeShapes Go.WideShapes Go.ChangeAt Go.RowKit

theorem cells3 : Try.prog.cellsOf 3 = 1 := by kernel_rfl
theorem cells4 : Try.prog.cellsOf 4 = 1 := by kernel_rfl
theorem cells27 : Try.prog.cellsOf 27 = 3 := by kernel_rfl

/-- A number, and with how many bits it is written; or a byte is filled with it. -/
structure Num where
  V : Int
  N : Int
  F : Bool

/-- One of them in memory. -/
def OneNum (w : World) (b o : Nat) (x : Num) : Prop :=
  w.cell? ⟨b, o, none⟩ = some (.int .i64 x.V) ∧ w.cell? ⟨b, o + 1, none⟩ = some (.int .i64 x.N) ∧ w.cell? ⟨b, o + 2, none⟩ = some (.bool x.F) ∧
  (-9223372036854775808 ≤ x.V ∧ x.V ≤ 9223372036854775807) ∧ (-9223372036854775808 ≤ x.N ∧ x.N ≤ 9223372036854775807)

/-- All of them in memory. -/
def Nums (w : World) (a : Option Addr) (len cp : Nat) (xs : List Num) : Prop :=
  len ≤ cp ∧ cp ≤ maxLen ∧ xs.length = len ∧ ∀ i x, xs[i]? = some x → ∃ b off, a = some ⟨b, off, none⟩ ∧ OneNum w b (off + i * 3) x

theorem Nums.later {w w' : World} {a : Option Addr} {len cp : Nat} {xs : List Num} (h : Nums w a len cp xs) (hk : ∀ k, k < w.heap.size → w'.heap[k]? = w.heap[k]?) : Nums w' a len cp xs := by
  obtain ⟨h1, h2, h3, h4⟩ := h
  refine ⟨h1, h2, h3, fun i x hx => ?_⟩
  obtain ⟨b, off, e, c0, c1, c2, c3⟩ := h4 i x hx
  have up : ∀ p v, w.cell? p = some v → w'.cell? p = some v := fun p v hv => (World.cell?_of_block (w := w) (hk _ (World.block_lt_of_cell? w _ hv))).trans hv
  exact ⟨b, off, e, up _ _ c0, up _ _ c1, up _ _ c2, c3⟩

theorem add_none (b off i j : Nat) : ((⟨b, off, none⟩ : Addr).add i).add j = ⟨b, off + i + j, none⟩ := by
  unfold Addr.add
  split <;> rename_i h1 <;> split <;> rename_i h2 <;> simp_all

theorem nums_each {H : Type} {enc : TypeId × Value → H} {w : World} {fuel : Nat} {a : Option Addr} {len cp : Nat} {x : DataW H × List MemPlace}
    (h : DataW.trod enc Try.prog w 0 (fun _ => true) true fuel 22 [.slice a len cp] = some x) : len ≤ cp ∧ cp ≤ maxLen ∧ ∀ i, i < len → ∃ x b off, a = some ⟨b, off, none⟩ ∧ OneNum w b (off + i * 3) x := by
  rcases Deep.open_slice Try.underlying22 h with ⟨hcs, _⟩ | ⟨ad, l, c, m, n, D, Pl, hcs, _, hl, hm, hmm, _, hi⟩
  · simp only [List.cons.injEq, and_true, Value.slice.injEq] at hcs
    obtain ⟨rfl, rfl, rfl⟩ := hcs
    exact ⟨Nat.le_refl _, Nat.zero_le _, fun i hi => by omega⟩
  · simp only [List.cons.injEq, and_true, Value.slice.injEq] at hcs
    obtain ⟨rfl, rfl, rfl⟩ := hcs
    refine ⟨hl, hm, fun i hlt => ?_⟩
    obtain ⟨b, off, spot⟩ := ad
    have hsp : spot = none := by
      obtain ⟨cs, hc, _⟩ := hi 0 (by rw [hmm, if_pos rfl]; omega)
      rw [cells27, Nat.zero_mul] at hc
      obtain ⟨_, hcl, hat⟩ := World.cells?_some hc
      have h1 := World.cell?_spot ((hat 0 (by omega)).trans (List.getElem?_eq_getElem (by omega)))
      simpa [Addr.add] using h1
    subst hsp
    obtain ⟨cs, hc, ht⟩ := hi i (by rw [hmm, if_pos rfl]; omega)
    rw [cells27] at hc
    obtain ⟨ys, n', _, _, _, hyl, hf⟩ := DataW.trod_struct Try.underlying27 ht
    obtain ⟨_, hcl, hat⟩ := World.cells?_some hc
    match cs, hcl with
    | [v0, v1, v2], _ =>
      match ys, hyl with
      | [y0, y1, y2], _ =>
        have f0 : DataW.trod enc Try.prog w 0 (fun _ => true) true n' 3 (List.take (Try.prog.cellsOf 3) [v0, v1, v2]) = some y0 := hf 0 _ rfl
        rw [cells3] at f0
        have f1 : DataW.trod enc Try.prog w 0 (fun _ => true) true n' 3 (List.take (Try.prog.cellsOf 3) [v1, v2]) = some y1 := hf 1 _ rfl
        rw [cells3] at f1
        have f2 : DataW.trod enc Try.prog w 0 (fun _ => true) true n' 4 (List.take (Try.prog.cellsOf 4) [v2]) = some y2 := hf 2 _ rfl
        rw [cells4] at f2
        obtain ⟨V, e0, _, hV⟩ := DataW.trod_int Try.underlying3 f0
        obtain ⟨N, e1, _, hN⟩ := DataW.trod_int Try.underlying3 f1
        obtain ⟨F, e2, _⟩ := DataW.trod_bool Try.underlying4 f2
        obtain rfl : v0 = _ := (List.cons.inj (show [v0] = [_] from e0)).1
        obtain rfl : v1 = _ := (List.cons.inj (show [v1] = [_] from e1)).1
        obtain rfl : v2 = _ := (List.cons.inj (show [v2] = [_] from e2)).1
        simp only [add_none] at hat
        exact ⟨⟨V, N, F⟩, b, off, rfl, hat 0 (by omega), hat 1 (by omega), hat 2 (by omega), bounds_i64 hV, bounds_i64 hN⟩

theorem nums_of_trod {H : Type} {enc : TypeId × Value → H} {w : World} {fuel : Nat} {a : Option Addr} {len cp : Nat} {x : DataW H × List MemPlace}
    (h : DataW.trod enc Try.prog w 0 (fun _ => true) true fuel 22 [.slice a len cp] = some x) : ∃ xs, Nums w a len cp xs := by
  obtain ⟨h1, h2, h3⟩ := nums_each h
  have h4 : ∀ i : Nat, ∃ x : Num, i < len → ∃ b off, a = some ⟨b, off, none⟩ ∧ OneNum w b (off + i * 3) x := by
    intro i
    by_cases hi : i < len
    · obtain ⟨x, hx⟩ := h3 i hi
      exact ⟨x, fun _ => hx⟩
    · exact ⟨⟨0, 0, false⟩, fun h => absurd h hi⟩
  obtain ⟨f, hf⟩ := Classical.axiomOfChoice h4
  refine ⟨(List.range len).map f, h1, h2, by simp, fun i x hx => ?_⟩
  rw [List.getElem?_map] at hx
  by_cases hi : i < len
  · rw [List.getElem?_range hi] at hx
    simp only [Option.map_some, Option.some.injEq] at hx
    subst hx
    exact hf i hi
  · have : (List.range len)[i]? = none := by simp; omega
    rw [this] at hx
    cases hx
end Go.Proofs.Yteeapkbmlhlhjaa
