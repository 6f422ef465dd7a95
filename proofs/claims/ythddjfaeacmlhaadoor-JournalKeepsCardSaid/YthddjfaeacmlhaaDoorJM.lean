/- What came in, opened: the table that start-up lays, bytes, lists of texts. -/
import Derived.Test.YthddjfaeacmlhaaDoorRows
import Derived.Test.YthddjfaeacmlhaaDoorJI
import Derived.ProofKit
import Derived.LaidMore
import Derived.OpenShut
import Derived.ChangeOld
import Derived.Below
import Derived.Deep.Matrix
import Derived.MakeChecks
namespace Go.Proofs.YthddjfaeacmlhaaDoor
open Go.ChangeShapes Go.WideShapes Go.ChangeAt Go.RowKit
set_option linter.unusedVariables false

abbrev table : List (String × DataW Unit) := [("scumble/sums.fours", Rows.laid_scumble_sums_fours)]
theorem gFours : Tryd.prog.globalNamed "scumble/sums.fours" = some 0 := by kernel_rfl
theorem tFours : (Tryd.prog.globals[0]?).map (·.type) = some 69 := by kernel_rfl
theorem cellsU : Tryd.prog.cellsOf 68 = 1 := by kernel_rfl

/-- The door's own heap meets the condition. -/
theorem door_met (os : Os) (args : Array Value) : laidMetH Tryd.prog table ((World.doorLaid Tryd.prog 14 os).forCall (fun _ _ => 0) ⟨#[], args, []⟩).memory :=
  laidMetH_of_parts3 (fuel := 8) (laidMet_of_run' 8 (by kernel_rfl) (by kernel_rfl)) (by kernel_rfl) (by kernel_rfl)

def tabs : List Int := [0, 498536548, 997073096, 651767980, 1994146192, 1802195444, 1303535960, 1342533948, 3988292384, 4027552580, 3604390888, 3412177804, 2607071920, 2262029012, 2685067896, 3183342108]
theorem tabs_tab : ∀ i, i < 16 → tabs[i]? = some (tab i : Int) := by decide +kernel

theorem fours_of_laid {W : World} (h : laidMetH Tryd.prog table W) : Fours W := by
  rw [MakeChecks.laidMetH_plain _ _ _ (by kernel_rfl)] at h
  obtain ⟨ps, ⟨g0, t0, cs0, f0, p0, q0, hg0, ht0, hv0, hd0, _, _⟩, _, _⟩ := h
  obtain rfl := Option.some.inj (gFours.symm.trans hg0)
  obtain rfl := Option.some.inj (tFours.symm.trans ht0)
  obtain ⟨xs, m1, rfl, hx1, hlen, hn, hel⟩ := DataW.trod_array Tryd.underlying69 hd0
  simp only [Prod.mk.injEq] at hx1
  intro i hi
  rw [World.var?_cell hg0 hv0 i]
  have h0 := hel i hi
  rw [cellsU, Nat.mul_one] at h0
  have hxi : i < xs.length := by omega
  rw [List.getElem?_eq_getElem hxi] at h0
  obtain ⟨k, e1, e2, _⟩ := DataW.trod_int Tryd.underlying68 h0
  have hc : cs0[i]? = some (.int .u32 k) := by
    have e3 : ((cs0.toList.drop i).take 1)[0]? = some (.int .u32 k) := by rw [e1]; rfl
    rw [List.getElem?_take_of_lt (by omega), List.getElem?_drop, Nat.add_zero, Array.getElem?_toList] at e3
    exact e3
  rw [hc]
  have e4 : (xs.map (·.1))[i]? = some (.lit (.int .u32 k)) := by rw [List.getElem?_map, List.getElem?_eq_getElem hxi, e2]; rfl
  have e5 : xs.map (·.1) = tabs.map (fun z => DataW.lit (.int .u32 z)) := by
    have := hx1.1
    simp only [Rows.laid_scumble_sums_fours, DataW.agg.injEq] at this
    rw [← this]
    rfl
  rw [e5, List.getElem?_map, tabs_tab i hi] at e4
  simp only [Option.map_some, Option.some.injEq, DataW.lit.injEq, Lit.int.injEq, true_and] at e4
  rw [e4]

/-- A slice of bytes that came in. -/
def IsRow (w : World) (a : Option Addr) (len cap : Nat) (zs : List Int) : Prop :=
  (a = none ∧ len = 0 ∧ cap = 0 ∧ zs = []) ∨
  ∃ x, a = some x ∧ len ≤ cap ∧ cap ≤ maxLen ∧ zs.length = cap ∧ (∀ i, i < zs.length → w.cell? (x.add i) = some (.int .u8 (zs.getD i 0))) ∧ ∀ n ∈ zs, (Lit.int .u8 n).wf = true
theorem byte_bounds {n : Int} (h : (Lit.int .u8 n).wf = true) : 0 ≤ n ∧ n < 256 := by
  simp [Lit.wf, IntKind.min, IntKind.max, IntKind.signed, IntKind.bits] at h
  omega
theorem head_spot {w : World} {x : Addr} {v : Value} (h : w.cell? (x.add 0) = some v) : ∃ b off, x = ⟨b, off, none⟩ := by
  obtain ⟨b, off, spot⟩ := x
  have h1 := World.cell?_spot (by simpa [Addr.add] using h)
  simp only at h1
  exact ⟨b, off, by rw [h1]⟩
theorem arg_of_row {w : World} {a : Option Addr} {len cap : Nat} {zs : List Int} (h : IsRow w a len cap zs) : ∃ ds, Arg w a len cap ds := by
  rcases h with ⟨rfl, rfl, rfl, _⟩ | ⟨x, rfl, hl, hm, hz, hcell, hwz⟩
  · exact ⟨[], nil_arg w⟩
  · refine ⟨(zs.take len).map Int.toNat, ⟨by simp; omega, ?_, fun hp => ?_⟩, hl, fun e => (by cases e)⟩
    · intro y hy
      simp only [List.mem_map] at hy
      obtain ⟨z, hz2, rfl⟩ := hy
      have := byte_bounds (hwz z (List.mem_of_mem_take hz2))
      omega
    · obtain ⟨b, off, rfl⟩ := head_spot (hcell 0 (by omega))
      refine ⟨b, off, rfl, fun j y hj => ?_⟩
      rw [List.getElem?_map, List.getElem?_take] at hj
      split at hj
      · rename_i hjl
        have hj2 : j < zs.length := by omega
        have hc := hcell j hj2
        rw [add_spot] at hc
        rw [List.getElem?_eq_getElem hj2] at hj
        simp only [Option.map_some, Option.some.injEq] at hj
        rw [hc, List.getD_eq_getElem?_getD, List.getElem?_eq_getElem hj2]
        have := byte_bounds (hwz _ (List.getElem_mem hj2))
        simp only [Option.getD_some]
        congr 2
        omega
      · cases hj
theorem arg_of_trod {H : Type} {enc : TypeId × Value → H} {w : World} {a : Option Addr} {len cp : Nat} {d : DataW H} {p : List MemPlace}
    (h : DataW.Trod enc Tryd.prog w 0 (fun _ => true) true 22 (.slice a len cp) d p) : ∃ ds, Arg w a len cp ds := by
  obtain ⟨fuel, hf⟩ := h
  have k : ∃ zs, IsRow w a len cp zs := by
    rcases open_ints Tryd.underlying22 Tryd.underlying5 (by kernel_rfl) hf with ⟨hcs, _⟩ | ⟨x, l, c, zs, hcs, _, hl, hm, hz, _, hcell, hwz⟩
    · simp [Value.cells] at hcs
      obtain ⟨rfl, rfl, rfl⟩ := hcs
      exact ⟨[], .inl ⟨rfl, rfl, rfl, rfl⟩⟩
    · simp [Value.cells] at hcs
      obtain ⟨rfl, rfl, rfl⟩ := hcs
      exact ⟨zs, .inr ⟨_, rfl, hl, hm, by simpa using hz, hcell, hwz⟩⟩
  obtain ⟨zs, hz⟩ := k
  exact arg_of_row hz

theorem texts_each {H : Type} {enc : TypeId × Value → H} {w : World} {fuel : Nat} {a : Option Addr} {len cp : Nat} {x : DataW H × List MemPlace}
    (h : DataW.trod enc Tryd.prog w 0 (fun _ => true) true fuel 24 [.slice a len cp] = some x) : ∀ i, i < len → ∃ ys b off a' m c', a = some ⟨b, off, none⟩ ∧ w.cell? ⟨b, off + i, none⟩ = some (.slice a' m c') ∧ (m ≤ c' ∧ (a' = none → m = 0 ∧ c' = 0)) ∧ Bytes w a' m ys := by
  rcases Deep.open_int_rows Tryd.underlying24 Tryd.underlying22 Tryd.underlying5 (by kernel_rfl) (by kernel_rfl) h with ⟨hcs, _⟩ | ⟨ad, l, c, A, L, C, Z, hcs, _, hl, hm, _, hi⟩
  · simp only [List.cons.injEq, and_true, Value.slice.injEq] at hcs
    obtain ⟨rfl, rfl, rfl⟩ := hcs
    intro i hi; omega
  · simp only [List.cons.injEq, and_true, Value.slice.injEq] at hcs
    obtain ⟨rfl, rfl, rfl⟩ := hcs
    intro i hlt
    obtain ⟨b, off, rfl⟩ := head_spot (hi 0 (by omega)).1
    obtain ⟨hc, h1, h2, h3, h4, h5, h6⟩ := hi i (by omega)
    rw [add_spot] at hc
    have k : IsRow w (A i) (L i) (C i) (Z i) := by
      cases hA : A i with
      | none =>
        have := h5 hA
        exact .inl ⟨rfl, by omega, this, List.eq_nil_of_length_eq_zero (by omega)⟩
      | some a' => exact .inr ⟨a', rfl, h1, h2, h3, fun j hj => (h6 a' hA).2 j (by omega), h4⟩
    obtain ⟨ds, hd⟩ := arg_of_row k
    exact ⟨ds, b, off, A i, L i, C i, rfl, hc, ⟨hd.2.1, hd.2.2⟩, hd.1⟩
theorem rows_cap {H : Type} {enc : TypeId × Value → H} {w : World} {fuel : Nat} {a : Option Addr} {len cp : Nat} {x : DataW H × List MemPlace}
    (h : DataW.trod enc Tryd.prog w 0 (fun _ => true) true fuel 24 [.slice a len cp] = some x) : len ≤ cp ∧ (a = none → len = 0 ∧ cp = 0) := by
  rcases Deep.open_int_rows Tryd.underlying24 Tryd.underlying22 Tryd.underlying5 (by kernel_rfl) (by kernel_rfl) h with ⟨hcs, _⟩ | ⟨ad, l, c, A, L, C, Z, hcs, _, hl, hm, _, hi⟩
  · simp only [List.cons.injEq, and_true, Value.slice.injEq] at hcs
    obtain ⟨rfl, rfl, rfl⟩ := hcs
    exact ⟨Nat.le_refl _, fun _ => ⟨rfl, rfl⟩⟩
  · simp only [List.cons.injEq, and_true, Value.slice.injEq] at hcs
    obtain ⟨rfl, rfl, rfl⟩ := hcs
    exact ⟨hl, fun e => by cases e⟩
theorem tx_of_trod {H : Type} {enc : TypeId × Value → H} {w : World} {a : Option Addr} {len cp : Nat} {d : DataW H} {p : List MemPlace}
    (h : DataW.Trod enc Tryd.prog w 0 (fun _ => true) true 24 (.slice a len cp) d p) : ∃ ls, Tx w (fun _ => True) a len cp ls := by
  obtain ⟨fuel, hf⟩ := h
  have hcap := rows_cap hf
  have h3 := texts_each hf
  have h4 : ∀ i : Nat, ∃ (ys : List Nat) (v : Value), i < len → ∃ b off, a = some ⟨b, off, none⟩ ∧ w.cell? ⟨b, off + i, none⟩ = some v ∧ Item w (fun _ => True) v ys := by
    intro i
    by_cases hi : i < len
    · obtain ⟨ys, b, off, a', m, c', e, hc, hm, hb⟩ := h3 i hi
      exact ⟨ys, .slice a' m c', fun _ => ⟨b, off, e, hc, a', m, c', rfl, ⟨hb, hm.1, hm.2⟩, fun _ _ _ => trivial⟩⟩
    · exact ⟨[], undef, fun h => absurd h hi⟩
  obtain ⟨f, hf⟩ := Classical.axiomOfChoice h4
  obtain ⟨g, hg⟩ := Classical.axiomOfChoice hf
  refine ⟨(List.range len).map f, by simp, hcap.1, hcap.2, (List.range len).map g, ⟨by simp, fun i v hi => ?_⟩, fun hp => ?_⟩
  · rw [List.getElem?_map] at hi
    by_cases hl : i < len
    · rw [List.getElem?_range hl] at hi
      simp only [Option.map_some, Option.some.injEq] at hi
      subst hi
      obtain ⟨b, off, e, hc, hit⟩ := hg i hl
      exact ⟨f i, by rw [List.getElem?_map, List.getElem?_range hl]; rfl, hit⟩
    · rw [List.getElem?_eq_none (by simp; omega)] at hi
      cases hi
  · obtain ⟨b, off, e, _⟩ := hg 0 hp
    refine ⟨b, off, e, trivial, fun i v hi => ?_⟩
    rw [List.getElem?_map] at hi
    by_cases hl : i < len
    · rw [List.getElem?_range hl] at hi
      simp only [Option.map_some, Option.some.injEq] at hi
      subst hi
      obtain ⟨b2, off2, e2, hc, _⟩ := hg i hl
      rw [e] at e2
      cases e2
      exact hc
    · rw [List.getElem?_eq_none (by simp; omega)] at hi
      cases hi
end Go.Proofs.YthddjfaeacmlhaaDoor
